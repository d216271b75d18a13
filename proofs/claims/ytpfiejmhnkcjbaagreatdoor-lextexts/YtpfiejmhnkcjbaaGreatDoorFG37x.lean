/-
  text's writers of bytes: writePair, writeBlob, writeText, truthWord. · text's writers of bytes: writeBlob, writeText, truthWord. · text.writeText.
-/
import Derived.Test.YtpfiejmhnkcjbaaGreatDoorFG35x
import Derived.Test.YtpfiejmhnkcjbaaGreatDoorFMa
namespace Go.Proofs.YtpfiejmhnkcjbaaGreatDoor
open Go.RowKit Math
set_option linter.unusedVariables false
set_option linter.unusedSimpArgs false
theorem hx_idx (n : Nat) (h : n < 16) (w : World) : (Instr.index 9 (.string ⟨#[48, 49, 50, 51, 52, 53, 54, 55, 56, 57, 97, 98, 99, 100, 101, 102]⟩) (.int .u8 (n : Int))).run Tryz.prog w = .ok (.int .u8 ((hxd n : Nat) : Int)) w := by
  have h1 : ∀ k : Fin 16, ∃ u : UInt8, (#[48, 49, 50, 51, 52, 53, 54, 55, 56, 57, 97, 98, 99, 100, 101, 102] : Array UInt8)[k.val]? = some u ∧ u.toNat = hxd k.val := by decide +kernel
  obtain ⟨u, e1, e2⟩ := h1 ⟨n, h⟩
  simp only at e1 e2
  have e3 : (⟨#[48, 49, 50, 51, 52, 53, 54, 55, 56, 57, 97, 98, 99, 100, 101, 102]⟩ : ByteArray)[n]? = some u := by
    rw [← e1]; rfl
  simp [Instr.index, asIntOf, run_underlying Tryz.underlying9, e3, e2]
set_option maxRecDepth 8000 in
set_option maxHeartbeats 1000000 in
theorem wpair9 (c : Nat) (hc : c < 256) {b B : Nat} {W : World} {v : Value} {l : List Nat} (h : Bs b B W v l) (hl : l.length ≤ 899999990) :
    Calls Tryz.prog 169 #[.pointer (some ⟨b, 0, none⟩), .int .u8 (c : Int)] W fun e w' => ∃ v', e = .returned (.tuple #[]) ∧ Hid (Bw b B W w' v v' (l ++ pX c)) := by
  have hi := hx_idx (c / 16) (by omega)
  have lo := hx_idx (c % 16) (by omega)
  have e1 : ((c / 16 : Nat) : Int) = (c : Int) / 16 := by omega
  rw [e1] at hi
  obtain ⟨q, hq⟩ : ∃ q : Nat, q = c % 16 := ⟨_, rfl⟩
  have hand : bits .and .u8 (c : Int) 15 = (q : Int) := by
    have h1 : ∀ k : Fin 256, bits .and .u8 ((k.val : Nat) : Int) 15 = ((k.val % 16 : Nat) : Int) := by decide +kernel
    rw [hq]
    exact h1 ⟨c, hc⟩
  rw [← hq] at lo
  have HP : Hid (pX c = [hxd (c / 16), hxd q]) := by rw [hq]; rfl
  have K1 := wrb9 (hxd (c / 16)) h (by omega)
  clear hq e1
  go_enter Tryz.func169, Tryz.ntmps169
  go_wp2_with fail
  refine K1.mono ?_
  rintro e w1 ⟨v1, rfl, H1⟩
  have K2 := wrb9 (hxd q) H1.out.bs (by simp; omega)
  clear K1 hi
  go_wp2_with fail
  refine K2.mono ?_
  rintro e w2 ⟨v2, rfl, H2⟩
  have hF : Bw b B W w2 v v2 (l ++ pX c) := by
    have := H1.out.trans H2.out
    rw [HP.out]
    simpa using this
  have HF : Hid (Bw b B W w2 v v2 (l ++ pX c)) := hF
  clear hF
  clear K2 H1 H2 HP lo hand
  go_wp2
  go_end0
  exact ⟨v2, rfl, HF.out⟩
end Go.Proofs.YtpfiejmhnkcjbaaGreatDoor
namespace Go.Proofs.YtpfiejmhnkcjbaaGreatDoor
open Go.RowKit Math
set_option linter.unusedVariables false
set_option linter.unusedSimpArgs false
theorem bget9 (s : ByteArray) (n : Nat) (h : n < s.size) : (bts s).getD n 0 = (s[n]'h).toNat := by
  rw [List.getD_eq_getElem?_getD, bts, List.getElem?_map]
  have h2 : n < s.data.toList.length := by rw [Array.length_toList]; exact h
  rw [List.getElem?_eq_getElem h2]
  rfl
theorem conv9 (s : ByteArray) (hs : s.size ≤ 1000000000) (W : World) : ∃ c w', (convert 9 34 (.string s)).run Tryz.prog W = .ok (.slice (some ⟨W.heap.size, 0, none⟩) s.size c) w' ∧ s.size ≤ c ∧ c ≤ 9223372036854775807 ∧ Below W.heap.size W w' ∧ Cells w' W.heap.size 0 (bts s) ∧ W.heap.size < w'.heap.size := by
  have hge := grownCap_ge W s.size 0 5
  have hmx := grownCap_le_maxLen W s.size 0 5 (by unfold maxLen; omega)
  unfold maxLen at hmx
  refine ⟨_, _, run_bytes_of_string W 9 34 5 s Tryz.underlying9 Tryz.underlying34 Tryz.underlying5, hge, by omega, ?_, ?_, ?_⟩
  · exact (Below.drew (Below.refl _ _)).alloc (Nat.le_refl _) _
  · generalize grownCap W s.size 0 5 = c at *
    intro i hi
    rw [bts_len] at hi
    have hh : ((W.drew.alloc (.cells (bytesRow s c) 5 ((bytesRow s c).size, (bytesRow s c).size + 1))).heap)[W.heap.size]? = some (.cells (bytesRow s c) 5 ((bytesRow s c).size, (bytesRow s c).size + 1)) := by
      show (W.heap.push _)[W.heap.size]? = _
      simp
    unfold World.cell?
    simp only [hh, Nat.zero_add]
    rw [bget9 s i hi]
    unfold bytesRow
    rw [Array.getElem?_append_left (by rw [Array.size_map]; exact hi), Array.getElem?_map]
    have h2 : i < s.data.size := hi
    rw [Array.getElem?_eq_getElem h2]
    rfl
  · show W.heap.size < (W.heap.push _).size
    simp
/-- A row of bytes that stands beside a builder. -/
structure Rw9 (b g : Nat) (wr : World) (v : Value) (l : List Nat) : Prop where
  cl : Cells wr g 0 l
  lt : g < wr.heap.size
  nb : g ≠ b
  no : v.ownBlock ≠ some g
theorem Rw9.step {b B g : Nat} {wr w' : World} {v v' : Value} {l l' : List Nat} (h : Rw9 b g wr v l) (k : Bw b B wr w' v v' l') : Rw9 b g w' v' l := by
  have hz := k.size
  refine ⟨fun i hi => ?_, by have := h.lt; omega, h.nb, fun e => ?_⟩
  · have := h.cl i hi
    rw [← this]
    unfold World.cell?
    rw [k.keep g h.lt h.nb h.no]
  · rcases k.ob g e with c | c
    · exact h.no c
    · have := h.lt; omega
theorem Rw9.start {b B : Nat} {w w' : World} {v : Value} {l m : List Nat} (h : Bs b B w v l) (hc : Cells w' w.heap.size 0 m) (hl : w.heap.size < w'.heap.size) : Rw9 b w.heap.size w' v m :=
  ⟨hc, hl, by have := h.lt; omega, fun e => by have := (World.ownsRow.lt h.own _ e).2; omega⟩
theorem take_next {l : List Nat} {k : Nat} (h : k < l.length) : l.take (k + 1) = l.take k ++ [l.getD k 0] := by
  rw [List.take_add_one, List.getElem?_eq_getElem h, List.getD_eq_getElem?_getD, List.getElem?_eq_getElem h]
  rfl
theorem pY_next {l : List Nat} {k : Nat} (h : k < l.length) : pY (l.take (k + 1)) = pY (l.take k) ++ pX (l.getD k 0) := by
  rw [take_next h, pY_app]
  simp [pY]
theorem pS_next {l : List Nat} {k : Nat} (h : k < l.length) : pS (l.take (k + 1)) = pS (l.take k) ++ pE (l.getD k 0) := by
  rw [take_next h, pS_app]
  simp [pS]
theorem tw_any (n : Int) (w : World) : Calls Tryz.prog 139 #[.int .i64 n] w fun e w' => e = .returned (.string (if n = 1 then ⟨#[116, 114, 117, 101]⟩ else ⟨#[102, 97, 108, 115, 101]⟩)) ∧ w' = w := by
  by_cases h : n = 1
  · subst h
    go_enter Tryz.func139, Tryz.ntmps139
    go_wp2
    go_ret
    exact ⟨rfl, rfl⟩
  · have h2 : (n == 1) = false := by simpa using h
    rw [if_neg h]
    go_enter Tryz.func139, Tryz.ntmps139
    go_wp2
    go_ret
    exact ⟨rfl, rfl⟩
set_option maxRecDepth 8000 in
set_option maxHeartbeats 1000000 in
theorem wblob9 (s : ByteArray) {b B : Nat} {W : World} {v : Value} {l : List Nat} (h : Bs b B W v l) (hl : l.length + 3 * s.size ≤ 800000000) :
    Calls Tryz.prog 143 #[.pointer (some ⟨b, 0, none⟩), .string s] W fun e w' => ∃ v', e = .returned (.tuple #[]) ∧ Hid (Bw b B W w' v v' (l ++ pB s)) := by
  have K := wrs9 ⟨#[35]⟩ h (by show l.length + 1 ≤ _; omega)
  have hlt := h.lt
  clear h
  go_enter Tryz.func143, Tryz.ntmps143
  go_wp2_with fail
  refine K.mono ?_
  rintro e w1 ⟨v1, rfl, H1⟩
  obtain ⟨c, w2, hcv, hc1, hc2, hbl, hcl, hw2⟩ := conv9 s (by omega) w1
  have HI0 : Hid (Bw b B W w2 v v1 (l ++ (35 :: pY ((bts s).take 0))) ∧ Rw9 b w1.heap.size w2 v1 (bts s)) := ⟨H1.out.more hbl, Rw9.start H1.out.bs hcl hw2⟩
  clear K H1 hbl hcl hw2
  go_wp2
  go_loopw [5, 11] (fun x i wr => ∃ (k : Nat) (v2 : Value), k ≤ s.size ∧ i = .int .i64 (k : Int) ∧ Hid (Bw b B W wr v v2 (l ++ (35 :: pY ((bts s).take k))) ∧ Rw9 b w1.heap.size wr v2 (bts s))) (fun x i _ => s.size - (intOf i).toNat)
  case atStart => exact ⟨0, v1, by omega, rfl, HI0.out⟩
  case round =>
    clear HI0 hcv
    obtain ⟨k, v2, hk, rfl, HI⟩ := hrel
    by_cases hk2 : k < s.size
    · have hx := bts_oct s ((bts s).getD k 0) (by rw [List.getD_eq_getElem?_getD, List.getElem?_eq_getElem (by rw [bts_len]; exact hk2)]; exact List.getElem_mem _)
      have hcell : wr.cell? ⟨w1.heap.size, k, none⟩ = some (.int .u8 (((bts s).getD k 0 : Nat) : Int)) := by
        have := HI.out.2.cl k (by rw [bts_len]; exact hk2)
        rw [Nat.zero_add] at this
        exact this
      have HN : Hid (pY ((bts s).take (k + 1)) = pY ((bts s).take k) ++ pX ((bts s).getD k 0)) := pY_next (by rw [bts_len]; exact hk2)
      have hlen : (l ++ (35 :: pY ((bts s).take k))).length ≤ 899999990 := by
        rw [List.length_append, List.length_cons, pY_len, List.length_take, bts_len]
        omega
      have K := wpair9 ((bts s).getD k 0) hx HI.out.1.bs hlen
      generalize (bts s).getD k 0 = x at *
      clear hlen
      go_wp2_with fail
      refine K.mono ?_
      rintro e w3 ⟨v3, rfl, H3⟩
      have HI2 : Hid (Bw b B W w3 v v3 (l ++ (35 :: pY ((bts s).take (k + 1)))) ∧ Rw9 b w1.heap.size w3 v3 (bts s)) := by
        refine ⟨?_, HI.out.2.step H3.out⟩
        have := HI.out.1.trans H3.out
        rw [HN.out]
        simpa using this
      clear K H3 HI HN hcell
      go_wp2
      go_roundw
      case rel => exact ⟨k + 1, v3, by omega, by go_num, HI2.out⟩
      case measure => simp [intOf]; omega
    · have HF : Hid (Bw b B W wr v v2 (l ++ pB s)) := by
        have := HI.out.1
        rw [List.take_of_length_le (by rw [bts_len]; omega)] at this
        exact this
      clear HI
      go_wp2
      go_end0
      exact ⟨v2, rfl, HF.out⟩
end Go.Proofs.YtpfiejmhnkcjbaaGreatDoor
namespace Go.Proofs.YtpfiejmhnkcjbaaGreatDoor
open Go.RowKit Math
set_option linter.unusedVariables false
set_option linter.unusedSimpArgs false
set_option maxRecDepth 8000 in
set_option maxHeartbeats 2000000 in
theorem wtext9 (s : ByteArray) {b B : Nat} {W : World} {v : Value} {l : List Nat} (h : Bs b B W v l) (hl : l.length + 3 * s.size ≤ 800000000) :
    Calls Tryz.prog 142 #[.pointer (some ⟨b, 0, none⟩), .string s] W fun e w' => ∃ v', e = .returned (.tuple #[]) ∧ Hid (Bw b B W w' v v' (l ++ pQ s)) := by
  have K := wrs9 ⟨#[39]⟩ h (by show l.length + 1 ≤ _; omega)
  have hlt := h.lt
  clear h
  go_enter Tryz.func142, Tryz.ntmps142
  go_wp2_with fail
  refine K.mono ?_
  rintro e w1 ⟨v1, rfl, H1⟩
  obtain ⟨c, w2, hcv, hc1, hc2, hbl, hcl, hw2⟩ := conv9 s (by omega) w1
  have HI0 : Hid (Bw b B W w2 v v1 (l ++ (39 :: pS ((bts s).take 0))) ∧ Rw9 b w1.heap.size w2 v1 (bts s)) := ⟨H1.out.more hbl, Rw9.start H1.out.bs hcl hw2⟩
  clear K H1 hbl hcl hw2
  go_wp2
  go_loopw [5, 11] (fun x i wr => ∃ (k : Nat) (v2 : Value), k ≤ s.size ∧ i = .int .i64 (k : Int) ∧ Hid (Bw b B W wr v v2 (l ++ (39 :: pS ((bts s).take k))) ∧ Rw9 b w1.heap.size wr v2 (bts s))) (fun x i _ => s.size - (intOf i).toNat)
  case atStart => exact ⟨0, v1, by omega, rfl, HI0.out⟩
  case round =>
    clear HI0 hcv
    obtain ⟨k, v2, hk, rfl, HI⟩ := hrel
    have hlen : (l ++ (39 :: pS ((bts s).take k))).length ≤ 800000001 := by
      have := (pS_len ((bts s).take k)).2
      rw [List.length_take, bts_len] at this
      rw [List.length_append, List.length_cons]
      omega
    by_cases hk2 : k < s.size
    case neg =>
      have K := wrs9 ⟨#[39]⟩ HI.out.1.bs (by show _ + 1 ≤ _; omega)
      clear hlen
      go_wp2_with fail
      refine K.mono ?_
      rintro e w3 ⟨v3, rfl, H3⟩
      have HF : Hid (Bw b B W w3 v v3 (l ++ pQ s)) := by
        have := HI.out.1.trans H3.out
        rw [List.take_of_length_le (by rw [bts_len]; omega)] at this
        show Bw _ _ _ _ _ _ _
        unfold pQ
        rw [show bts ⟨#[39]⟩ = [39] from rfl, List.append_assoc] at this
        exact this
      clear K H3 HI
      go_wp2
      go_end0
      exact ⟨v3, rfl, HF.out⟩
    have hx := bts_oct s ((bts s).getD k 0) (by rw [List.getD_eq_getElem?_getD, List.getElem?_eq_getElem (by rw [bts_len]; exact hk2)]; exact List.getElem_mem _)
    have hcell : wr.cell? ⟨w1.heap.size, k, none⟩ = some (.int .u8 (((bts s).getD k 0 : Nat) : Int)) := by
      have := HI.out.2.cl k (by rw [bts_len]; exact hk2)
      rw [Nat.zero_add] at this
      exact this
    have HN : Hid (pS ((bts s).take (k + 1)) = pS ((bts s).take k) ++ pE ((bts s).getD k 0)) := pS_next (by rw [bts_len]; exact hk2)
    generalize (bts s).getD k 0 = x at *
    have HS : Hid (∀ w3 v3, Bw b B wr w3 v2 v3 (l ++ (39 :: pS ((bts s).take k)) ++ pE x) → Bw b B W w3 v v3 (l ++ (39 :: pS ((bts s).take (k + 1)))) ∧ Rw9 b w1.heap.size w3 v3 (bts s)) := fun w3 v3 H3 => by
      refine ⟨?_, HI.out.2.step H3⟩
      have := HI.out.1.trans H3
      rw [HN.out]
      simpa using this
    have HBs : Hid (Bs b B wr v2 (l ++ (39 :: pS ((bts s).take k)))) := HI.out.1.bs
    clear HI HN
    by_cases h39 : x = 39
    · have hb : ((x : Int) == 39) = true := by rw [h39]; rfl
      have HE : Hid (pE x = [39, 39]) := by show _ = _; unfold pE; rw [if_pos h39]
      have K := wrs9 ⟨#[39, 39]⟩ HBs.out (by show _ + 2 ≤ _; omega)
      clear hlen h39
      go_wp2_with fail
      refine K.mono ?_
      rintro e w3 ⟨v3, rfl, H3⟩
      have HI2 : Hid (Bw b B W w3 v v3 (l ++ (39 :: pS ((bts s).take (k + 1)))) ∧ Rw9 b w1.heap.size w3 v3 (bts s)) := HS.out w3 v3 (by rw [HE.out]; exact H3.out)
      clear K H3 HS HBs HE hcell
      go_wp2
      go_roundw
      case rel => exact ⟨k + 1, v3, by omega, by go_num, HI2.out⟩
      case measure => simp [intOf]; omega
    have hb : ((x : Int) == 39) = false := by simp; omega
    by_cases hesc : x < 32 ∨ 126 < x ∨ x = 92
    · have HE : Hid (pE x = [92] ++ pX x) := by show _ = _; unfold pE; rw [if_neg h39, if_pos hesc]; rfl
      have K := wrb9 92 HBs.out (by omega)
      by_cases h1 : x < 32
      · clear hesc h39
        go_wp2_with fail
        refine K.mono ?_
        rintro e w3 ⟨v3, rfl, H3⟩
        have K2 := wpair9 x hx H3.out.bs (by simp at hlen ⊢; omega)
        clear K hlen
        go_wp2_with fail
        refine K2.mono ?_
        rintro e w4 ⟨v4, rfl, H4⟩
        have HI2 : Hid (Bw b B W w4 v v4 (l ++ (39 :: pS ((bts s).take (k + 1)))) ∧ Rw9 b w1.heap.size w4 v4 (bts s)) := HS.out w4 v4 (by rw [HE.out]; have := H3.out.trans H4.out; rw [List.append_assoc] at this ⊢; simpa using this)
        clear K2 H3 H4 HS HBs HE hcell
        go_wp2
        go_roundw
        case rel => exact ⟨k + 1, v4, by omega, by go_num, HI2.out⟩
        case measure => simp [intOf]; omega
      by_cases h2 : 126 < x
      · clear hesc h39
        go_wp2_with fail
        refine K.mono ?_
        rintro e w3 ⟨v3, rfl, H3⟩
        have K2 := wpair9 x hx H3.out.bs (by simp at hlen ⊢; omega)
        clear K hlen
        go_wp2_with fail
        refine K2.mono ?_
        rintro e w4 ⟨v4, rfl, H4⟩
        have HI2 : Hid (Bw b B W w4 v v4 (l ++ (39 :: pS ((bts s).take (k + 1)))) ∧ Rw9 b w1.heap.size w4 v4 (bts s)) := HS.out w4 v4 (by rw [HE.out]; have := H3.out.trans H4.out; rw [List.append_assoc] at this ⊢; simpa using this)
        clear K2 H3 H4 HS HBs HE hcell
        go_wp2
        go_roundw
        case rel => exact ⟨k + 1, v4, by omega, by go_num, HI2.out⟩
        case measure => simp [intOf]; omega
      have h92 : ((x : Int) == 92) = true := by
        have : x = 92 := by omega
        rw [this]; rfl
      clear hesc h39
      go_wp2_with fail
      refine K.mono ?_
      rintro e w3 ⟨v3, rfl, H3⟩
      have K2 := wpair9 x hx H3.out.bs (by simp at hlen ⊢; omega)
      clear K hlen
      go_wp2_with fail
      refine K2.mono ?_
      rintro e w4 ⟨v4, rfl, H4⟩
      have HI2 : Hid (Bw b B W w4 v v4 (l ++ (39 :: pS ((bts s).take (k + 1)))) ∧ Rw9 b w1.heap.size w4 v4 (bts s)) := HS.out w4 v4 (by rw [HE.out]; have := H3.out.trans H4.out; rw [List.append_assoc] at this ⊢; simpa using this)
      clear K2 H3 H4 HS HBs HE hcell
      go_wp2
      go_roundw
      case rel => exact ⟨k + 1, v4, by omega, by go_num, HI2.out⟩
      case measure => simp [intOf]; omega
    have HE : Hid (pE x = [x]) := by show _ = _; unfold pE; rw [if_neg h39, if_neg hesc]
    have h1 : ¬ x < 32 := fun h => hesc (.inl h)
    have h2 : ¬ 126 < x := fun h => hesc (.inr (.inl h))
    have h92 : ((x : Int) == 92) = false := by
      have : ¬ x = 92 := fun h => hesc (.inr (.inr h))
      simp; omega
    have K := wrb9 x HBs.out (by omega)
    clear hesc h39 hlen
    go_wp2_with fail
    refine K.mono ?_
    rintro e w3 ⟨v3, rfl, H3⟩
    have HI2 : Hid (Bw b B W w3 v v3 (l ++ (39 :: pS ((bts s).take (k + 1)))) ∧ Rw9 b w1.heap.size w3 v3 (bts s)) := HS.out w3 v3 (by rw [HE.out]; exact H3.out)
    clear K H3 HS HBs HE hcell
    go_wp2
    go_roundw
    case rel => exact ⟨k + 1, v3, by omega, by go_num, HI2.out⟩
    case measure => simp [intOf]; omega
end Go.Proofs.YtpfiejmhnkcjbaaGreatDoor
