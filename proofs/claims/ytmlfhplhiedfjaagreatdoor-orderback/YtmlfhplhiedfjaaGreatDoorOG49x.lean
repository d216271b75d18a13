/-
  The law OrderBack, walked. · A list of values that comes in. · A call that comes in: what lies laid, and the world's shape beside it.
-/
import Derived.Test.YtmlfhplhiedfjaaGreatDoorOG48x
import Derived.Test.YtmlfhplhiedfjaaGreatDoorOG14x
import Derived.Test.YtmlfhplhiedfjaaGreatDoorOG9x
import Derived.HandedShaped
namespace Go.Proofs.YtmlfhplhiedfjaaGreatDoor
open Go.RowKit Math
set_option linter.unusedVariables false
set_option linter.unusedSimpArgs false
/-- What both Above answer. -/
def abP (s : ByteArray) (T : ByteArray) (b : Bool) : Prop := ∃ n, Abv (bts s) n ∧ ((n = 0 ∧ T = em ∧ b = false) ∨ (0 < n ∧ T = ofB (abvL (bts s) n) ∧ b = true))
theorem abv_one {L : List Nat} {n m : Nat} (h : Abv L n) (g : Abv L m) : n = m := by
  rcases Nat.lt_trichotomy n m with c | c | c
  · exact absurd (h.ff (m - 1) (by omega) (by have := g.le; omega)) (g.nf (by omega))
  · exact c
  · exact absurd (g.ff (n - 1) (by omega) (by have := h.le; omega)) (h.nf (by omega))
theorem abP_one {s T T' : ByteArray} {b b' : Bool} (h : abP s T b) (g : abP s T' b') : T = T' ∧ b = b' := by
  obtain ⟨n, h1, h2⟩ := h
  obtain ⟨m, g1, g2⟩ := g
  obtain rfl := abv_one h1 g1
  rcases h2 with ⟨a1, a2, a3⟩ | ⟨a1, a2, a3⟩ <;> rcases g2 with ⟨c1, c2, c3⟩ | ⟨c1, c2, c3⟩
  · exact ⟨by rw [a2, c2], by rw [a3, c3]⟩
  · omega
  · omega
  · exact ⟨by rw [a2, c2], by rw [a3, c3]⟩
theorem above9 (s : ByteArray) (hs : s.size ≤ 1000000000) (W : World) : Calls Tryz.prog 13 #[.string s] W fun e w' => ∃ T b, e = .returned (.tuple #[.string T, .bool b]) ∧ Hid (abP s T b ∧ Below W.heap.size W w') := by
  refine (above_any s hs W).mono ?_
  rintro e w' ⟨n, h1, h2, h3⟩
  rcases h2 with ⟨a, rfl⟩ | ⟨a, rfl⟩
  · exact ⟨em, false, rfl, ⟨n, h1.out, .inl ⟨a, rfl, rfl⟩⟩, h3⟩
  · exact ⟨_, true, rfl, ⟨n, h1.out, .inr ⟨a, rfl, rfl⟩⟩, h3⟩
theorem rabove9 (s : ByteArray) (hs : s.size ≤ 1000000000) (W : World) : Calls Tryz.prog 14 #[.string s] W fun e w' => ∃ T b, e = .returned (.tuple #[.string T, .bool b]) ∧ Hid (abP s T b ∧ Below W.heap.size W w') := by
  refine (rabove_any s hs W).mono ?_
  rintro e w' ⟨n, h1, h2, h3⟩
  rcases h2 with ⟨a, rfl⟩ | ⟨a, rfl⟩
  · exact ⟨em, false, rfl, ⟨n, h1.out, .inl ⟨a, rfl, rfl⟩⟩, h3⟩
  · exact ⟨_, true, rfl, ⟨n, h1.out, .inr ⟨a, rfl, rfl⟩⟩, h3⟩
theorem lv_nil (w : World) : Lv w none 0 .nil := ⟨.inl rfl, ⟨Nat.le_refl _, fun _ => rfl, by omega⟩, .inl rfl, ⟨Nat.le_refl _, fun _ => rfl, by omega⟩⟩
/-- What Values answers, either way. -/
def vaP (W w' : World) (s : ByteArray) (f : Fo) (ka : Option Addr) (kc : Nat) (E : Int) : Prop := (E = 0 ∧ Vs W w' (bts s) f ka kc) ∨ (E = 3 ∧ f = .nil ∧ ka = none ∧ kc = 0 ∧ Vn W w' (bts s))
theorem values9 (s : ByteArray) (hN : s.size ≤ 1000000000) (hcnt : s.size ≤ 90000 ∨ ∃ g, Wf g ∧ chkL g = 0 ∧ bts s = keyF g false [] ∧ g.list.length ≤ 90000) (W : World) (hm : Mx W) :
    Calls Tryz.prog 10 #[.string s] W fun e w' => ∃ f ka kc E, e = .returned (.tuple #[.slice ka f.list.length kc, .int .i64 E]) ∧ Hid (vaP W w' s f ka kc E) := by
  refine (values_any s hN hcnt W hm).mono ?_
  rintro e w' (⟨f, ka, kc, rfl, h⟩ | ⟨rfl, h⟩)
  · exact ⟨f, ka, kc, 0, rfl, .inl ⟨rfl, h.out⟩⟩
  · exact ⟨.nil, none, 0, 3, rfl, .inr ⟨rfl, rfl, rfl, rfl, h.out⟩⟩
theorem rvalues9 (s : ByteArray) (hN : s.size ≤ 90000) (W : World) :
    Calls Tryz.prog 12 #[.string s] W fun e w' => ∃ f ka kc E, e = .returned (.tuple #[.slice ka f.list.length kc, .int .i64 E]) ∧ Hid (vaP W w' s f ka kc E) := by
  refine (rvalues_any s hN W).mono ?_
  rintro e w' (⟨f, ka, kc, rfl, h⟩ | ⟨rfl, h⟩)
  · exact ⟨f, ka, kc, 0, rfl, .inl ⟨rfl, h.out⟩⟩
  · exact ⟨.nil, none, 0, 3, rfl, .inr ⟨rfl, rfl, rfl, rfl, h.out⟩⟩
theorem vaP.bl {W w' : World} {s : ByteArray} {f : Fo} {ka : Option Addr} {kc : Nat} {E : Int} (h : vaP W w' s f ka kc E) : Below W.heap.size W w' := by
  rcases h with ⟨_, h⟩ | ⟨_, _, _, _, h⟩
  · exact h.bl
  · exact h.bl
theorem vaP.lv {W w' : World} {s : ByteArray} {f : Fo} {ka : Option Addr} {kc : Nat} {E : Int} (h : vaP W w' s f ka kc E) : Lv w' ka kc f ∧ Wf f := by
  rcases h with ⟨_, h⟩ | ⟨_, rfl, rfl, rfl, h⟩
  · exact ⟨h.lv, h.wf⟩
  · exact ⟨lv_nil _, trivial⟩
theorem vaP.one {W w' V v' : World} {s : ByteArray} {f g : Fo} {ka kb : Option Addr} {kc kd : Nat} {E E' : Int} (h : vaP W w' s f ka kc E) (k : vaP V v' s g kb kd E') : f = g ∧ E = E' := by
  rcases h with ⟨e1, h⟩ | ⟨e1, rfl, _, _, h⟩ <;> rcases k with ⟨e2, k⟩ | ⟨e2, rfl, _, _, k⟩
  · exact ⟨k.one f h.wf h.ck h.key, by rw [e1, e2]⟩
  · exact absurd h.key (k.no f h.wf h.ck)
  · exact absurd k.key (h.no g k.wf k.ck)
  · exact ⟨rfl, by rw [e1, e2]⟩
/-- The first half: a key's values are those that it was made of. -/
theorem vaP.key {W w' : World} {s : ByteArray} {f g : Fo} {ka : Option Addr} {kc : Nat} {E : Int} (h : vaP W w' s f ka kc E) (h1 : Wf g) (h2 : chkL g = 0) (h3 : keyF g false [] = bts s) : E = 0 ∧ g = f := by
  rcases h with ⟨e1, h⟩ | ⟨e1, rfl, _, _, h⟩
  · exact ⟨e1, h.one g h1 h2 h3⟩
  · exact absurd h3 (h.no g h1 h2)
theorem key_cnt : ∀ f : Fo, f.list.length ≤ (keyF f false []).length
  | .nil => by simp [Fo.list, keyF]
  | .cons h k r => by
    have := key_cnt r
    obtain ⟨t, ht⟩ := key_class (h, k)
    rw [show keyF (.cons h k r) false [] = _ from keyF_cons (h, k) r false [], ht]
    simp only [Fo.list, List.length_cons, List.length_append, Bool.false_eq_true, if_false, List.length_nil, List.tail_nil]
    omega
theorem vaP.cnt {W w' : World} {s : ByteArray} {f : Fo} {ka : Option Addr} {kc : Nat} {E : Int} (h : vaP W w' s f ka kc E) : f.list.length ≤ s.size := by
  rcases h with ⟨_, h⟩ | ⟨_, rfl, _, _, _⟩
  · have := key_cnt f
    rw [h.key, bts_len] at this
    exact this
  · simp [Fo.list]
set_option maxRecDepth 8000 in
set_option maxHeartbeats 4000000 in
theorem back_walk (f : Fo) (hw : Wf f) (hlen : f.list.length ≤ 140737488355328) (ka : Option Addr) (kc : Nat) (s : ByteArray) (hs : s.size ≤ 9223372036854775807) (W : World) (hv : Lv W ka kc f) (hm : Mx W) :
    Calls Tryz.prog 3 #[.slice ka f.list.length kc, .string s] W fun e w' => e = .returned (.bool true) ∧ Below W.heap.size W w' := by
  have KH := heavy_any f hw hlen ka kc W hv
  have HV : Hid (Lv W ka kc f) := hv
  have HWf : Hid (Wf f) := hw
  have HM : Hid (Mx W) := hm
  clear hv hw hm
  go_enter Tryz.func3, Tryz.ntmps3
  go_wp2_with fail
  refine KH.mono ?_
  rintro e w1 ⟨t, rfl, H1⟩
  have HB1 : Hid (Below W.heap.size W w1) := H1.out.2
  cases t
  case true =>
    clear KH H1
    go_wp2
    go_ret
    exact ⟨rfl, HB1.out⟩
  have HWS : Hid (f.ws ≤ 2000) := H1.out.1 rfl
  clear H1 KH
  by_cases hbig : 2000 < s.size
  · have hbi : (2000 : Int) < (s.size : Int) := by omega
    go_wp2
    go_ret
    exact ⟨rfl, HB1.out⟩
  have hsm : s.size ≤ 2000 := by omega
  have HS : Hid (chkL f = 0 → (keyF f false []).length ≤ 600000000) := key_short f HWS.out
  have K1 := key_any f HWf.out hlen ka kc w1 (Lv.below HV.out HB1.out) (HM.out.below HB1.out HM.out.pos) HS.out
  obtain ⟨E, hE⟩ : ∃ E, chkL f = E := ⟨_, rfl⟩
  obtain ⟨T, hT⟩ : ∃ T, keyT f = T := ⟨_, rfl⟩
  have HE : Hid (chkL f = E) := hE
  have HT : Hid (keyT f = T) := hT
  rw [hE, hT] at K1
  clear hE hT hbig
  go_wp2_with fail
  refine K1.mono ?_
  rintro e w2 ⟨rfl, b2⟩
  have HB2 : Hid (Below W.heap.size W w2) := HB1.out.trans (b2.mono HB1.out.size)
  clear K1 b2 HB1
  by_cases hE0 : E = 0
  case neg =>
    have hEb : (E == 0) = false := by simpa using hE0
    have KA := values9 s (by omega) (.inl (by omega)) w2 (HM.out.below HB2.out HM.out.pos)
    clear HT HE HS hE0 HWS HV
    go_wp2_with fail
    refine KA.mono ?_
    rintro e w3 ⟨fa, aa, ca, Ea, rfl, HA⟩
    have KB := rvalues9 s (by omega) w3
    clear KA
    go_wp2_with fail
    refine KB.mono ?_
    rintro e w4 ⟨fb, ab, cb, Eb, rfl, HBv⟩
    obtain ⟨rfl, rfl⟩ := HA.out.one HBv.out
    have HB3 : Hid (Below W.heap.size W w3) := HB2.out.trans (HA.out.bl.mono HB2.out.size)
    have HB4 : Hid (Below W.heap.size W w4) := HB3.out.trans (HBv.out.bl.mono HB3.out.size)
    have HLa : Hid (Lv w4 aa ca fa ∧ Wf fa ∧ Lv w4 ab cb fa ∧ fa.list.length ≤ s.size) := ⟨HA.out.lv.1.below HBv.out.bl, HA.out.lv.2, HBv.out.lv.1, HA.out.cnt⟩
    have K5 := above9 s (by omega) w4
    clear KB HA HBv HB3 HB2
    go_wp2_with fail
    refine K5.mono ?_
    rintro e w5 ⟨T1, b1, rfl, H5⟩
    have K6 := rabove9 s (by omega) w5
    clear K5
    go_wp2_with fail
    refine K6.mono ?_
    rintro e w6 ⟨T2, b2, rfl, H6⟩
    obtain ⟨rfl, rfl⟩ := abP_one H5.out.1 H6.out.1
    have HB5 : Hid (Below w4.heap.size w4 w6) := H5.out.2.trans (H6.out.2.mono H5.out.2.size)
    have HB6 : Hid (Below W.heap.size W w6) := HB4.out.trans (HB5.out.mono HB4.out.size)
    have K7 := lvals_same fa HLa.out.2.1 (by have := HLa.out.2.2.2; omega) aa ca ab cb w6 (HLa.out.1.below HB5.out) (HLa.out.2.2.1.below HB5.out)
    clear K6 H5 H6 HB4 HB5 HLa
    go_wp2_with fail
    refine K7.mono ?_
    rintro e w7 ⟨rfl, b7⟩
    have HB7 : Hid (Below W.heap.size W w7) := HB6.out.trans (b7.mono HB6.out.size)
    have KN := known_any w7 (HM.out.below HB7.out HM.out.pos)
    clear K7 b7 HB6
    go_wp2_with fail
    refine KN.mono ?_
    rintro e w8 ⟨rfl, b8⟩
    have HB8 : Hid (Below W.heap.size W w8) := HB7.out.trans (b8.mono HB7.out.size)
    clear KN b8 HB7
    go_wp2
    go_ret
    exact ⟨rfl, HB8.out⟩
  subst hE0
  have HKt : Hid (keyF f false [] = bts T) := by
    show _ = _
    rw [← HT.out, keyT_yes HE.out, bts_ofB _ (keyF_oct f _ _ HWf.out (chkL_flat f HE.out))]
  have hTz : T.size ≤ 600000000 := by
    have := HS.out HE.out
    rw [HKt.out, bts_len] at this
    exact this
  have KV := values9 T (by omega) (.inr ⟨f, HWf.out, HE.out, HKt.out.symm, by have := len_ws f; have := HWS.out; omega⟩) w2 (HM.out.below HB2.out HM.out.pos)
  clear HT HS HWS hTz
  go_wp2_with fail
  refine KV.mono ?_
  rintro e wa ⟨fm, am, cm, Em, rfl, HMv⟩
  obtain ⟨rfl, rfl⟩ := HMv.out.key HWf.out HE.out HKt.out
  have HBa : Hid (Below W.heap.size W wa) := HB2.out.trans (HMv.out.bl.mono HB2.out.size)
  have KS := lvals_same f HWf.out (by omega) am cm ka kc wa HMv.out.lv.1 (Lv.below HV.out HBa.out)
  clear KV HMv HB2 HKt HE
  go_wp2_with fail
  refine KS.mono ?_
  rintro e wb ⟨rfl, bb⟩
  have HBb : Hid (Below W.heap.size W wb) := HBa.out.trans (bb.mono HBa.out.size)
  clear KS bb HBa
  have KA := values9 s (by omega) (.inl (by omega)) wb (HM.out.below HBb.out HM.out.pos)
  clear HV
  go_wp2_with fail
  refine KA.mono ?_
  rintro e w3 ⟨fa, aa, ca, Ea, rfl, HA⟩
  have KB := rvalues9 s (by omega) w3
  clear KA
  go_wp2_with fail
  refine KB.mono ?_
  rintro e w4 ⟨fb, ab, cb, Eb, rfl, HBv⟩
  obtain ⟨rfl, rfl⟩ := HA.out.one HBv.out
  have HB3 : Hid (Below W.heap.size W w3) := HBb.out.trans (HA.out.bl.mono HBb.out.size)
  have HB4 : Hid (Below W.heap.size W w4) := HB3.out.trans (HBv.out.bl.mono HB3.out.size)
  have HLa : Hid (Lv w4 aa ca fa ∧ Wf fa ∧ Lv w4 ab cb fa ∧ fa.list.length ≤ s.size) := ⟨HA.out.lv.1.below HBv.out.bl, HA.out.lv.2, HBv.out.lv.1, HA.out.cnt⟩
  have K5 := above9 s (by omega) w4
  clear KB HA HBv HB3 HBb
  go_wp2_with fail
  refine K5.mono ?_
  rintro e w5 ⟨T1, b1, rfl, H5⟩
  have K6 := rabove9 s (by omega) w5
  clear K5
  go_wp2_with fail
  refine K6.mono ?_
  rintro e w6 ⟨T2, b2, rfl, H6⟩
  obtain ⟨rfl, rfl⟩ := abP_one H5.out.1 H6.out.1
  have HB5 : Hid (Below w4.heap.size w4 w6) := H5.out.2.trans (H6.out.2.mono H5.out.2.size)
  have HB6 : Hid (Below W.heap.size W w6) := HB4.out.trans (HB5.out.mono HB4.out.size)
  have K7 := lvals_same fa HLa.out.2.1 (by have := HLa.out.2.2.2; omega) aa ca ab cb w6 (HLa.out.1.below HB5.out) (HLa.out.2.2.1.below HB5.out)
  clear K6 H5 H6 HB4 HB5 HLa
  go_wp2_with fail
  refine K7.mono ?_
  rintro e w7 ⟨rfl, b7⟩
  have HB7 : Hid (Below W.heap.size W w7) := HB6.out.trans (b7.mono HB6.out.size)
  have KN := known_any w7 (HM.out.below HB7.out HM.out.pos)
  clear K7 b7 HB6
  go_wp2_with fail
  refine KN.mono ?_
  rintro e w8 ⟨rfl, b8⟩
  have HB8 : Hid (Below W.heap.size W w8) := HB7.out.trans (b8.mono HB7.out.size)
  clear KN b8 HB7
  go_wp2
  go_ret
  exact ⟨rfl, HB8.out⟩
end Go.Proofs.YtmlfhplhiedfjaaGreatDoor
namespace Go.Proofs.YtmlfhplhiedfjaaGreatDoor
open Go.ChangeShapes Go.WideShapes Go.RowKit
set_option linter.unusedVariables false
set_option maxRecDepth 8000 in
theorem open_list {H : Type} {enc : TypeId × Value → H} {W : World} {fuel : Nat} {v5 : Value} {y : DataW H × List MemPlace} (h : DataW.trod enc Tryz.prog W 0 (fun _ => true) true fuel 22 [v5] = some y)
    (hw : ∀ n ∈ y.1.weights Tryz.prog 22, n ≤ reachBytes) : ∃ ka kc, ∃ f : Fo, v5 = .slice ka f.list.length kc ∧ Slc W ka f ∧ Cap ka f.list.length kc ∧ f.list.length ≤ 140737488355328 ∧ Wf f := by
  rcases DataW.trod_slice Tryz.underlying22 h with ⟨hcs, _⟩ | ⟨ad, len, cap, elems, rest, m, hm0, hcs, hx, _, hl, hm, hel, hei, _, _⟩
  · simp at hcs
    exact ⟨none, 0, .nil, hcs, .inl rfl, ⟨Nat.le_refl _, fun _ => rfl, by omega⟩, by simp [Fo.list], trivial⟩
  · simp only [List.cons.injEq, and_true] at hcs
    have hlen : len ≤ 140737488355328 := by
      have := hw _ (by rw [hx]; simp only [DataW.weights, Tryz.underlying22]; exact List.mem_cons_self)
      rw [bytes25] at this
      simp only [List.length_map, reachBytes] at this
      omega
    unfold maxLen at hm
    have each : ∀ i, i < len → ∃ p, (∃ na nc ka kc, W.cells? 0 (ad.add (i * 6)) 6 = some (six p.1 na nc ka p.2.list.length kc) ∧ Vl W p na nc ka kc) ∧ WfV p := by
      intro i hi
      have hh := hei i hi
      rw [List.getElem?_eq_getElem (by omega)] at hh
      obtain ⟨cs', c1, c2⟩ := Option.bind_eq_some_iff.1 hh
      obtain ⟨p, na', nc', ka', kc', d1, d2, d3⟩ := open_val m c2 (fun n hn => hw n (by
        rw [hx]
        simp only [DataW.weights, Tryz.underlying22]
        refine List.mem_cons_of_mem _ (List.mem_append.2 (.inl (weightsAll_mem (d := elems[i].1) (List.mem_map.2 ⟨elems[i], List.getElem_mem _, rfl⟩) hn)))))
      rw [cells25] at c1
      exact ⟨p, ⟨na', nc', ka', kc', by rw [← d1]; exact c1, d2⟩, d3⟩
    by_cases h0 : len = 0
    · subst h0
      exact ⟨some ad, cap, .nil, hcs, .inl rfl, ⟨by simp [Fo.list], (fun e => by cases e), by omega⟩, by simp [Fo.list], trivial⟩
    obtain ⟨b, off, spot⟩ := ad
    have hs : spot = none := by
      obtain ⟨p, ⟨na', nc', ka', kc', c1, _⟩, _⟩ := each 0 (by omega)
      obtain ⟨_, _, hcell⟩ := World.cells?_some c1
      simpa [Addr.add] using World.cell?_spot (hcell 0 (by simp))
    subst hs
    obtain ⟨f, f1, f2, f3⟩ := mkFo (w := W) (b := b) len off (fun i hi => by
      obtain ⟨p, ⟨na', nc', ka', kc', c1, c2⟩, c3⟩ := each i hi
      obtain ⟨_, _, hcell⟩ := World.cells?_some c1
      simp only [Addr.add_lit] at hcell
      exact ⟨p, ⟨na', nc', ka', kc', ⟨hcell 0 (by simp), hcell 1 (by simp), hcell 2 (by simp), hcell 3 (by simp), hcell 4 (by simp), hcell 5 (by simp)⟩, c2⟩, c3⟩)
    exact ⟨_, cap, f, by rw [hcs, f1], .inr ⟨b, off, rfl, f2⟩, ⟨by omega, (fun e => by cases e), by omega⟩, by omega, f3⟩
theorem open_vals {H : Type} {enc : TypeId × Value → H} {W : World} {fuel len cap : Nat} {a : Option Addr} {x : DataW H × List MemPlace} (hf : DataW.trod enc Tryz.prog W 0 (fun _ => true) true fuel 22 (Value.slice a len cap).cells.toList = some x)
    (hw : ∀ n ∈ x.1.weights Tryz.prog 22, n ≤ reachBytes) : ∃ f : Fo, f.list.length = len ∧ Lv W a cap f ∧ len ≤ 140737488355328 ∧ Wf f := by
  obtain ⟨ka, kc, f, e, h1, h2, h3, h4⟩ := open_list (v5 := .slice a len cap) hf hw
  injection e with e1 e2 e3
  subst e1 e2 e3
  exact ⟨f, rfl, ⟨.inl rfl, ⟨Nat.le_refl _, fun _ => rfl, by omega⟩, h1, h2⟩, h3, h4⟩
end Go.Proofs.YtmlfhplhiedfjaaGreatDoor
namespace Go.Proofs.YtmlfhplhiedfjaaGreatDoor
open Go.RowKit
/-- What the library's contract asks of its own variable, out of the world's shape. -/
theorem mx_of {W : World} (h : W.ShapedOpen Tryz.prog) : Mx W := Tryz.laysM155.s1_3 W h
theorem handed_shaped {H : Type} {enc : TypeId × Value → H} {a : Assume} {C : Checked} {os : Os} {f : FuncId} {fn : Func} {s : ChangeSpec} {conds : List PathCond} {apart fresh handsOn again : Bool} {X : World → Array Value → Prop}
    (hX : ∀ (w w' : World) (args : Array Value), w.heap = w'.heap → X w args → X w' args)
    (own : ownKnob C.prog.godebug = none) (started : os.Started) (noInit : C.prog.inits.idxOf? f = none) (hfn : C.prog.funcs[f]? = some fn)
    (witness : ∃ (w : World) (tape : Tape) (i : Input), w.os = os ∧ (w.forCall tape i).Shaped C.prog ∧ i.vars = [] ∧ Input.okWide C.prog (w.forCall tape i) .any w.heap.size f i ∧
      ((s.pre enc C.prog fn conds apart (w.forCall tape i).memory i.args ∧ X (w.forCall tape i).memory i.args) ∧ sizedMet enc C.prog fn (OpenSpec.ofChange s) apart (w.forCall tape i).memory i.args) ∧ a.holds C.prog (lone (Frame.enter C.prog f i.args .normal) [] (w.forCall tape i)))
    (contract : ∀ (W : World) (base : Nat) (args : Array Value) (ds gs : List (DataW H)) (before : List MemPlace),
      (∀ (j : Nat) t v, fn.params[j]? = some t → args[j]? = some v → Value.okWide C.prog W .any base t v) →
      DataW.Whole enc C.prog fn.params.toList s.vars apart W args.toList ds gs before →
      conds.all (PathCond.test C.prog ⟨fn.params.toList, ds, s.plain.varTypes C.prog, gs⟩) = true →
      (DataW.weightsEach C.prog (fn.params.toList ++ s.plain.varTypes C.prog) (ds ++ gs)).all (· ≤ reachBytes) = true → X W args → W.ShapedOpen C.prog →
      Calls C.prog f args W fun e W' => ∃ v, e = .returned v ∧ s.post enc C.prog fn apart fresh handsOn again W args v W') :
    ReturnsInHanded a C os f .any (fun w args => (s.pre enc C.prog fn conds apart w args ∧ X w args) ∧ sizedMet enc C.prog fn (OpenSpec.ofChange s) apart w args) (s.post enc C.prog fn apart fresh handsOn again) := by
  refine returnsInHanded_of_calls own started noInit witness ?_
  intro w tape i _ hsh _ hok hpre hholds
  obtain ⟨_, _, _, fn', hfn', _, _, _, _, hval⟩ := hok
  have e : fn' = fn := Option.some.inj (hfn'.symm.trans hfn)
  subst e
  obtain ⟨⟨⟨ds, gs, before, hw, hc⟩, hx⟩, hz⟩ := hpre
  have hw' := DataW.Whole.of_heap (w' := w.forCall tape i) (by rfl) hw
  refine (contract (w.forCall tape i) w.heap.size i.args ds gs before hval hw' hc (hz.weights hw) (hX _ _ _ (by rfl) hx) hsh).mono fun e W' ⟨v, he, hp⟩ => ?_
  subst he
  exact ChangeSpec.post_blind hp
end Go.Proofs.YtmlfhplhiedfjaaGreatDoor
