/-
  The document's own order: Abs, Dec, texts.
-/
import Derived.Test.YtoggcabenjmnoaaDoorKl
namespace Go.Proofs.YtoggcabenjmnoaaDoor
open Go.RowKit Math
set_option linter.unusedVariables false
set_option linter.unusedSimpArgs false
set_option maxRecDepth 8000 in
theorem abs_any (n : Int) (n0 : -9223372036854775808 ≤ n) (n1 : n < 9223372036854775808) (W : World) :
    Calls Tryd.prog 29 #[.int .i64 n] W fun e w' => e = .returned (.int .u64 (n.natAbs : Int)) ∧ w' = W := by
  by_cases h : n < 0
  · obtain ⟨m, rfl⟩ : ∃ m : Nat, n = -(m : Int) - 1 := ⟨(-n - 1).toNat, by omega⟩
    have e : ((-(m : Int) - 1).natAbs : Int) = (m : Int) + 1 := by omega
    rw [e]
    have h1 : decide (-(m : Int) - 1 < 0) = true := decide_eq_true (by omega)
    have h2 : -(-(m : Int) - 1 + 1) = (m : Int) := by omega
    go_enter Tryd.func29, Tryd.ntmps29
    go_wp2
    go_ret
    exact ⟨by go_num, rfl⟩
  · obtain ⟨m, rfl⟩ : ∃ m : Nat, n = (m : Int) := ⟨n.toNat, by omega⟩
    have h1 : decide ((m : Int) < 0) = false := decide_eq_false (by omega)
    rw [Int.natAbs_natCast]
    go_enter Tryd.func29, Tryd.ntmps29
    go_wp2
    go_ret
    exact ⟨rfl, rfl⟩
/-- A number's digits as text. -/
def txD (l : List Nat) : ByteArray := ofB (l.map fun d => 48 + d)
theorem txD_size (l : List Nat) : (txD l).size = l.length := by unfold txD; rw [ofB_size, List.length_map]
theorem txD_bts {l : List Nat} (h : ∀ x ∈ l, x < 10) : bts (txD l) = l.map fun d => 48 + d := bts_ofB _ (fun x hx => by
  obtain ⟨y, hy, rfl⟩ := List.mem_map.1 hx
  have := h y hy
  omega)
theorem txD_cons (d : Nat) (l : List Nat) (hd : d < 10) (hl : ∀ x ∈ l, x < 10) : ofB [48 + d] ++ txD l = txD (d :: l) := by
  apply bts_inj
  rw [bts_app, txD_bts hl, txD_bts (fun x hx => by rcases List.mem_cons.1 hx with rfl | h; exact hd; exact hl x h), bts_ofB _ (fun x hx => by simp at hx; omega)]
  rfl
set_option maxRecDepth 8000 in
set_option maxHeartbeats 1000000 in
theorem dec_any (m : Nat) (hm : 0 < m) (hm2 : m < 18446744073709551616) (W : World) :
    Calls Tryd.prog 43 #[.int .u64 (m : Int)] W fun e w' => e = .returned (.string (txD (dgs 20 m))) ∧ Below W.heap.size W w' := by
  go_enter Tryd.func43, Tryd.ntmps43
  go_wp2
  go_loopw [0, 3] (fun p q wr => ∃ (v : Nat) (low : List Nat), v < 18446744073709551616 ∧ 0 < v ∧ low.length ≤ 19 ∧ p = .int .u64 (v : Int) ∧ q = .string (txD low) ∧ Hid (v < 10 ^ (20 - low.length) ∧ dgs 20 m = dgs (20 - low.length) v ++ low ∧ ∀ x ∈ low, x < 10) ∧ Hid (Below W.heap.size W wr)) (fun p _ _ => (intOf p).toNat)
  case atStart => exact ⟨m, [], hm2, hm, by simp, rfl, rfl, ⟨by show m < 10 ^ 20; omega, by simp, fun x hx => by cases hx⟩, Below.refl _ _⟩
  case round =>
    obtain ⟨v, low, hv, hv0, hll, rfl, rfl, HI, HB⟩ := hrel
    obtain ⟨d, hd⟩ : ∃ d, d = v % 10 := ⟨_, rfl⟩
    have hd10 : d < 10 := by omega
    have hde : (v : Int) % 10 = (d : Int) := by omega
    have hcv := conv_byt (w := wr.alloc (.cells (vals [48 + d]).toArray 5)) (c := 1) (byt_lit wr [48 + d]) (fun x hx => by simp at hx; omega) (by simp)
    replace hcv : (convert 42 9 (.slice (some ⟨wr.heap.size, 0, none⟩) 1 1)).run Tryd.prog (wr.alloc (.cells #[.int .u8 (48 + (d : Int))] 5)) = .ok (.string (ofB [48 + d])) (wr.alloc (.cells #[.int .u8 (48 + (d : Int))] 5)) := by
      have e : ((48 + d : Nat) : Int) = 48 + (d : Int) := by omega
      have e2 : (vals [48 + d]).toArray = #[.int .u8 (48 + (d : Int))] := by simp [vals, e]
      rw [e2] at hcv
      exact hcv
    have hD1 : (ofB [48 + d]).size = 1 := by rw [ofB_size]; rfl
    have hS1 : (txD low).size = low.length := txD_size low
    have hsz : ¬ 9223372036854775807 < (ofB [48 + d]).size + (txD low).size := by omega
    have hcc : ofB [48 + d] ++ txD low = txD (d :: low) := txD_cons d low hd10 HI.out.2.2
    have HB2 : Hid (Below W.heap.size W (wr.alloc (.cells #[.int .u8 (48 + (d : Int))] 5))) := HB.out.alloc HB.out.size _
    have HD : Hid (d = v % 10) := hd
    have HS : Hid (dgs (20 - low.length) v = dgs (19 - low.length) (v / 10) ++ [d]) := by
      show _ = _
      rw [show 20 - low.length = (19 - low.length) + 1 by omega, dgs, if_neg (by omega), HD.out]
    clear hd
    by_cases h10 : v < 10
    · have e0 : (v : Int) / 10 = 0 := by omega
      have HR : Hid (dgs 20 m = d :: low) := by
        show _ = _
        rw [HI.out.2.1, HS.out, show v / 10 = 0 by omega]
        have : dgs (19 - low.length) 0 = [] := by cases (19 - low.length) <;> rfl
        rw [this]
        rfl
      go_wp2
      go_ret
      exact ⟨by rw [HR.out]; rfl, HB2.out⟩
    · obtain ⟨v', hv'⟩ : ∃ v', v / 10 = v' := ⟨_, rfl⟩
      have e0 : (v : Int) / 10 = (v' : Int) := by omega
      have e1 : ((v' : Int) == 0) = false := beq_eq_false_iff_ne.2 (by omega)
      have HR : Hid (v' < 10 ^ (20 - (d :: low).length) ∧ dgs 20 m = dgs (20 - (d :: low).length) v' ++ d :: low ∧ ∀ x ∈ d :: low, x < 10) := by
        have h1 := HI.out.1
        rw [show 20 - low.length = (19 - low.length) + 1 by omega, Nat.pow_succ] at h1
        refine ⟨by rw [List.length_cons, show 20 - (low.length + 1) = 19 - low.length by omega]; omega, ?_, fun x hx => by rcases List.mem_cons.1 hx with rfl | h; exact hd10; exact HI.out.2.2 x h⟩
        rw [HI.out.2.1, HS.out, hv', List.length_cons, show 20 - (low.length + 1) = 19 - low.length by omega, List.append_assoc]
        rfl
      have hlow : (d :: low).length ≤ 19 := by
        have h1 := HR.out.1
        rcases Nat.lt_or_ge 19 (d :: low).length with h | h
        · rw [show 20 - (d :: low).length = 0 by omega] at h1
          simp at h1
          omega
        · exact h
      have hv1 : v' < v ∧ 0 < v' ∧ v' < 18446744073709551616 := by omega
      clear hv' HI HS HB
      go_wp2
      go_roundw
      case rel => exact ⟨v', d :: low, hv1.2.2, hv1.2.1, hlow, rfl, rfl, HR.out, HB2.out⟩
      case measure => simp [intOf]; omega
set_option maxRecDepth 8000 in
set_option maxHeartbeats 1000000 in
theorem rTx (v : Value) (l : List Nat) (s : ByteArray) (B : Nat) (W : World) (ho : Own W B v l) (hB : B ≤ W.heap.size) (hs : s.size ≤ 100000) (hl : l.length ≤ 700000000) :
    Calls Tryd.prog 39 #[v, .string s] W fun e w' => ∃ v', e = .returned v' ∧ Ap B W w' v v' (l ++ txK s) := by
  have HO : Hid (Own W B v l) := ho
  clear ho
  go_enter Tryd.func39, Tryd.ntmps39
  go_wp2
  go_loopw [0, 5] (fun vb i wr => ∃ k : Nat, k ≤ s.size ∧ i = .int .i64 (k : Int) ∧ Hid (Ap B W wr v vb (l ++ esc ((bts s).take k)))) (fun _ i _ => s.size - (intOf i).toNat)
  case atStart => exact ⟨0, by omega, rfl, (by show Ap _ _ _ _ _ _; simpa [esc] using Ap.refl HO.out)⟩
  case round =>
    obtain ⟨k, hk, rfl, HK⟩ := hrel
    have hBr : B ≤ wr.heap.size := by have := HK.out.gr.size; omega
    have hle : (l ++ esc ((bts s).take k)).length ≤ 700200000 := by
      have h1 := (esc_len ((bts s).take k)).2
      rw [List.length_take, bts_len] at h1
      rw [List.length_append]
      omega
    by_cases hlt : k < s.size
    · obtain ⟨x, hx⟩ : ∃ x, x = (s[k]'hlt).toNat := ⟨_, rfl⟩
      have hx2 : x < 256 := by rw [hx]; exact (s[k]'hlt).toNat_lt
      have hxs : (((s[k]'hlt).toNat : Nat) : Int) = (x : Int) := by rw [hx]
      have HT : Hid (esc ((bts s).take (k + 1)) = esc ((bts s).take k) ++ (if x = 0 then [0, 255] else [x])) := by
        show _ = _
        have hkl : k < (bts s).length := by rw [bts_len]; exact hlt
        have e : (bts s)[k] = x := by
          have := bts_get s k hlt
          rw [List.getD_eq_getElem?_getD, List.getElem?_eq_getElem hkl] at this
          rw [hx]
          exact this
        rw [List.take_add_one, List.getElem?_eq_getElem hkl, Option.toList_some, esc_app, e]
        congr 1
      clear hx
      obtain ⟨lk, HLK⟩ : ∃ lk, Hid (l ++ esc ((bts s).take k) = lk) := ⟨_, rfl⟩
      rw [HLK.out] at hle
      have HK' : Hid (Ap B W wr v u0 lk) := by rw [← HLK.out]; exact HK.out
      clear HK
      go_wp2_with (at_builtin; go_must (refine ap_bytes rfl (.tmp 12) (.tmp 16) rfl B u0 lk rfl (HK'.out.own.alloc _) _ _ _ [x] rfl rfl (byt_lit wr [x]) (by simp) (by simp only [List.length_singleton]; omega) (by simp; omega) ?_))
      intro v1 w1 A1
      have HA1 : Hid (Ap B W w1 v v1 (lk ++ [x])) := HK'.out.trans (Ap.after ((Below.refl _ _).alloc (Nat.le_refl _) _) A1)
      have hs1 := HA1.out.gr.size
      clear A1 HK'
      by_cases hz : x = 0
      · subst hz
        go_wp2_with (at_builtin; go_must (refine ap_bytes rfl (.tmp 22) (.tmp 23) rfl B v1 (lk ++ [0]) rfl (HA1.out.own.alloc _) _ _ _ [255] rfl rfl (byt_lit w1 [255]) (by simp) (by simp only [List.length_append, List.length_singleton]; omega) (by simp; omega) ?_))
        intro v2 w2 A2
        have HA2 : Hid (Ap B W w2 v v2 (l ++ esc ((bts s).take (k + 1)))) := by
          have h1 := HA1.out.trans (Ap.after ((Below.refl _ _).alloc (Nat.le_refl _) _) A2)
          show Ap _ _ _ _ _ _
          rw [HT.out, ← List.append_assoc, HLK.out]
          simpa using h1
        clear A2 HA1
        go_wp2
        go_roundw
        case rel => exact ⟨k + 1, by omega, by go_num, HA2.out⟩
        case measure => simp [intOf]; omega
      · have hzi : ((x : Int) == 0) = false := beq_eq_false_iff_ne.2 (by omega)
        have HA2 : Hid (Ap B W w1 v v1 (l ++ esc ((bts s).take (k + 1)))) := by
          show Ap _ _ _ _ _ _
          rw [HT.out, ← List.append_assoc, HLK.out, if_neg hz]
          exact HA1.out
        clear HA1
        go_wp2
        go_roundw
        case rel => exact ⟨k + 1, by omega, by go_num, HA2.out⟩
        case measure => simp [intOf]; omega
    · have HK' : Hid (Ap B W wr v u0 (l ++ esc (bts s))) := by
        have := HK.out
        rw [List.take_of_length_le (by rw [bts_len]; omega)] at this
        exact this
      rw [List.take_of_length_le (by rw [bts_len]; omega)] at hle
      obtain ⟨lk, HLK⟩ : ∃ lk, Hid (l ++ esc (bts s) = lk) := ⟨_, rfl⟩
      rw [HLK.out] at hle
      rw [HLK.out] at HK'
      clear HK
      go_wp2_with (at_builtin; go_must (refine ap_bytes rfl (.tmp 25) (.tmp 26) rfl B u0 lk rfl (HK'.out.own.alloc _) _ _ _ [0, 0] rfl rfl (byt_lit wr [0, 0]) (by simp) (by simp only [List.length_cons, List.length_nil]; omega) (by simp; omega) ?_))
      intro v2 w2 A2
      have HA2 : Hid (Ap B W w2 v v2 (l ++ txK s)) := by
        have h1 := HK'.out.trans (Ap.after ((Below.refl _ _).alloc (Nat.le_refl _) _) A2)
        show Ap _ _ _ _ _ _
        unfold txK
        rw [← List.append_assoc, HLK.out]
        exact h1
      clear A2 HK'
      go_wp2
      go_ret
      exact ⟨v2, rfl, HA2.out⟩
end Go.Proofs.YtoggcabenjmnoaaDoor
