/-
  heavy; TreeShapes' walk.
-/
import Derived.Test.YteokjfpppmnebaaPp
namespace Go.Proofs.Yteokjfpppmnebaa
open Go.RowKit
set_option linter.unusedVariables false
set_option linter.unusedSimpArgs false
theorem q_ixs {C : World → Prop} {a : Act} {o : Oper} {K : Act → Prop} (x y : Operand) (ho : o.op = .indexAddr 22 x y) (b off n c k : Nat) (hx : a.eval x = .slice (some ⟨b, off, none⟩) n c) (hy : a.eval y = .int .i64 (k : Int)) (hk1 : k < n)
    (hk : K (a.put o.dst (.pointer (some ⟨b, off + k * 4, none⟩)))) : o.quiet Try.prog a C K :=
  ⟨_, fun w hw => by
    unfold Oper.quietAt execOp
    have h1 : ¬ ((k : Int) < 0) := by omega
    have h2 : ¬ ((n : Int) ≤ (k : Int)) := by omega
    simp only [ho, hx, hy]
    go_simp, hk⟩
def IsB (e : Ending) : Prop := ∃ t, e = .returned (.bool t)
set_option maxRecDepth 8000 in
set_option maxHeartbeats 1000000 in
theorem heavy_any (a0 : Option Addr) (cap : Nat) (l : List Stp) (w : World) (hs : Scr w a0 l) (hz : ∀ s ∈ l, s.key.size ≤ 140737488355328 ∧ s.to.size ≤ 140737488355328) : Calls Try.prog 8 #[.slice a0 l.length cap] w fun e w' => IsB e ∧ Hid (Below w.heap.size w w') := by
  have HS : Hid (Scr w a0 l) := hs
  have HZ : Hid (∀ s ∈ l, s.key.size ≤ 140737488355328 ∧ s.to.size ≤ 140737488355328) := hz
  clear hs hz
  go_enter Try.func8, Try.ntmps8
  go_wp2
  go_loopw [3, 4] (fun n i wr => ∃ m k : Nat, m ≤ 20000 ∧ k ≤ l.length ∧ k ≤ 400 ∧ n = .int .i64 (m : Int) ∧ i = .int .i64 (k : Int) ∧ Hid (Below w.heap.size w wr)) (fun _ i _ => 400 - (intOf i).toNat)
  case atStart => exact ⟨0, 0, by omega, by omega, by omega, rfl, rfl, Below.refl _ _⟩
  case round =>
    obtain ⟨m, k, hm, hk, hk4, rfl, rfl, HB⟩ := hrel
    by_cases hlt : k < l.length
    case neg =>
      have hlt' : ¬ (k : Int) < (l.length : Int) := by omega
      go_wp2
      go_ret
      exact ⟨⟨false, rfl⟩, HB.out⟩
    have hlt' : (k : Int) < (l.length : Int) := by omega
    by_cases h4 : k < 400
    case neg =>
      have h4' : ¬ (k : Int) < 400 := by omega
      go_wp2
      go_ret
      exact ⟨⟨false, rfl⟩, HB.out⟩
    have h4' : (k : Int) < 400 := by omega
    obtain ⟨s, hsk⟩ : ∃ s, l[k]? = some s := ⟨_, List.getElem?_eq_getElem hlt⟩
    obtain ⟨b, off, rfl, hr⟩ := (HS.out.below HB.out).at hsk
    obtain ⟨z1, z2⟩ := HZ.out s (List.mem_of_getElem? hsk)
    have HR : Hid (wr.rangeAt b (off + k * 4) (stC s)) := hr
    obtain ⟨p, hp⟩ : ∃ p, s.key.size = p := ⟨_, rfl⟩
    obtain ⟨q, hq⟩ : ∃ q, s.to.size = q := ⟨_, rfl⟩
    have e1 : wrap64 ((m : Int) + (p : Int)) = ((m + p : Nat) : Int) := wrap_small (by omega) (by omega)
    have e2 : wrap64 (((m + p : Nat) : Int) + (q : Int)) = ((m + p + q : Nat) : Int) := wrap_small (by omega) (by omega)
    have HC : Hid (∀ W, Below wr.heap.size wr W → W.cell? ⟨b, off + k * 4 + 2, none⟩ = some (.string s.key) ∧ W.cell? ⟨b, off + k * 4 + 3, none⟩ = some (.string s.to)) := fun W g => by
      have h2 := HR.out 2 (.string s.key) rfl
      have h3 := HR.out 3 (.string s.to) rfl
      exact ⟨(g.cell (p := ⟨b, off + k * 4 + 2, none⟩) (cell_lt h2)).trans h2, (g.cell (p := ⟨b, off + k * 4 + 3, none⟩) (cell_lt h3)).trans h3⟩
    obtain ⟨C, hC⟩ : ∃ C : World → Prop, C = fun W => Below wr.heap.size wr W := ⟨_, rfl⟩
    have C0 : Hid (C { wr with drawn := wr.drawn + 1 }) := by rw [hC]; exact Below.drew (Below.refl _ _)
    have CO : Hid (∀ W, C W → Below wr.heap.size wr W) := fun W g => by rw [hC] at g; exact g
    have F1 : Hid (∀ W, C W → W.cell? ⟨b, off + k * 4 + 2, none⟩ = some (.string s.key)) := fun W g => (HC.out W (CO.out W g)).1
    have F2 : Hid (∀ W, C W → W.cell? ⟨b, off + k * 4 + 3, none⟩ = some (.string s.to)) := fun W g => (HC.out W (CO.out W g)).2
    clear hsk hr HR hC HC
    go_wp2_with fail
    have hCp : ∀ p : Prop, (∀ W, C W → p) ↔ p := fun p => ⟨fun h => h _ C0.out, fun h _ _ => h⟩
    refine wp_region_quiet (C := C) (by kernel_rfl) (by kernel_rfl) C0.out ?_
    change wpQuiet _ _ _ _ (_ :: _ :: _ :: _ :: _ :: _ :: _ :: _ :: _ :: _ :: _ :: _ :: _ :: _ :: _ :: _ :: []) _
    repeat (first
      | go_big_quiet_skip
      | (go_big_quiet_want
         first
         | (refine q_ixs (.tmp 16) (.tmp 17) rfl b off l.length cap k rfl rfl hlt ?_
            simp only [Act.put, List.setIfInBounds_toArray, List.set_cons_zero, List.set_cons_succ]
            go_big_quiet_on)
         | (refine q_ixs (.tmp 23) (.tmp 24) rfl b off l.length cap k rfl rfl hlt ?_
            simp only [Act.put, List.setIfInBounds_toArray, List.set_cons_zero, List.set_cons_succ]
            go_big_quiet_on)
         | (refine q_cell 9 (.inr (.inl rfl)) (.tmp 19) rfl b (off + k * 4 + 2) rfl _ F1.out ?_
            simp only [Act.put, List.setIfInBounds_toArray, List.set_cons_zero, List.set_cons_succ]
            go_big_quiet_on)
         | (refine q_cell 9 (.inr (.inl rfl)) (.tmp 26) rfl b (off + k * 4 + 3) rfl _ F2.out ?_
            simp only [Act.put, List.setIfInBounds_toArray, List.set_cons_zero, List.set_cons_succ]
            go_big_quiet_on)
         | (go_big_quiet_op
            go_big_quiet_on)))
    refine wpQuiet_nil ?_
    intro w9 h9
    have HN : Hid (Below w.heap.size w w9) := HB.out.trans ((CO.out _ h9).mono HB.out.size)
    clear h9 hCp C0 F1 F2 CO
    go_wp2
    · go_ret
      exact ⟨⟨true, rfl⟩, HN.out⟩
    · go_roundw
      case rel => exact ⟨m + p + q, k + 1, by omega, by omega, by omega, by simp, by go_num, HN.out⟩
      case measure => simp [intOf]; omega
set_option maxRecDepth 8000 in
set_option maxHeartbeats 2000000 in
theorem shapes_walk (a0 : Option Addr) (cap : Nat) (l : List Stp) (w : World) (hs : Scr w a0 l) (hz : ∀ s ∈ l, s.key.size ≤ 140737488355328 ∧ s.to.size ≤ 140737488355328) : Calls Try.prog 4 #[.slice a0 l.length cap] w fun e w' => e = .returned (.bool true) ∧ Hid (Below w.heap.size w w') := by
  have HS : Hid (Scr w a0 l) := hs
  have HZ : Hid (∀ s ∈ l, s.key.size ≤ 140737488355328 ∧ s.to.size ≤ 140737488355328) := hz
  have K := heavy_any a0 cap l w hs hz
  clear hs hz
  go_enter Try.func4, Try.ntmps4
  go_wp2_with fail
  refine K.mono ?_
  clear K
  rintro e w1 ⟨⟨t, rfl⟩, H⟩
  have HB1 : Hid (Below w.heap.size w w1) := H.out
  clear H
  cases t with
  | true =>
    have K := known_any w1
    go_wp2_with fail
    refine K.mono ?_
    clear K
    rintro e w2 ⟨rfl, H⟩
    have HF : Hid (Below w.heap.size w w2) := HB1.out.trans (H.out.mono HB1.out.size)
    clear H HB1
    go_wp2
    go_ret
    exact ⟨rfl, HF.out⟩
  | false =>
    have K := new_any w1
    go_wp2_with fail
    refine K.mono ?_
    clear K
    rintro e w2 ⟨g, rfl, H⟩
    have HO : Hid (StO w.heap.size w w2 g none) := ⟨H.out.1, by simp [fpO], by have := H.out.2.1; have := HB1.out.size; omega, HB1.out.grown H.out.2.2 HB1.out.size (by simp), Nat.le_refl _⟩
    clear H HB1
    go_wp2
    go_loopw [4] (fun i wr => ∃ k : Nat, k ≤ l.length ∧ k ≤ 400 ∧ i = .int .i64 (k : Int) ∧ Hid (∃ T, StO w.heap.size w wr g T ∧ (entO T).length ≤ k)) (fun i _ => 400 - (intOf i).toNat)
    case atStart => exact ⟨0, by omega, by omega, rfl, none, HO.out, by simp [entO]⟩
    case round =>
      obtain ⟨k, hk, hk4, rfl, HI⟩ := hrel
      obtain ⟨T, hT, hTl⟩ := HI.out
      have HT : Hid (StO w.heap.size w wr g T ∧ (entO T).length ≤ k) := ⟨hT, hTl⟩
      clear HO HI hT hTl
      by_cases hlt : k < l.length ∧ k < 400
      case neg =>
        have K := known_any wr
        have HB : Hid (Below w.heap.size w wr) := HT.out.1.bl
        by_cases hl1 : k < l.length
        · have hl1' : (k : Int) < (l.length : Int) := by omega
          have hl2' : ¬ (k : Int) < 400 := by omega
          clear HT
          go_wp2_with fail
          refine K.mono ?_
          clear K
          rintro e w3 ⟨rfl, H⟩
          have HF : Hid (Below w.heap.size w w3) := HB.out.trans (H.out.mono HB.out.size)
          clear H HB
          go_wp2
          go_ret
          exact ⟨rfl, HF.out⟩
        · have hl1' : ¬ (k : Int) < (l.length : Int) := by omega
          clear HT
          go_wp2_with fail
          refine K.mono ?_
          clear K
          rintro e w3 ⟨rfl, H⟩
          have HF : Hid (Below w.heap.size w w3) := HB.out.trans (H.out.mono HB.out.size)
          clear H HB
          go_wp2
          go_ret
          exact ⟨rfl, HF.out⟩
      obtain ⟨hl1, hl2⟩ := hlt
      have hl1' : (k : Int) < (l.length : Int) := by omega
      have hl2' : (k : Int) < 400 := by omega
      obtain ⟨s, hsk⟩ : ∃ s, l[k]? = some s := ⟨_, List.getElem?_eq_getElem hl1⟩
      obtain ⟨b, off, rfl, hr⟩ := (HS.out.below HT.out.1.bl).at hsk
      obtain ⟨z1, z2⟩ := HZ.out s (List.mem_of_getElem? hsk)
      have q0 : wr.cell? ⟨b, off + k * 4, none⟩ = some (.int .i64 s.kind) := hr 0 _ rfl
      have q2 : wr.cell? ⟨b, off + k * 4 + 2, none⟩ = some (.string s.key) := hr 2 _ rfl
      have hx1 : ¬ ((k : Int) < 0) := by omega
      have hx2 : ¬ ((l.length : Int) ≤ (k : Int)) := by omega
      have HShp : Hid (∀ W, (∃ T', StO w.heap.size w W g T' ∧ (entO T').length ≤ (entO T).length + 1) → Calls Try.prog 18 #[.pointer (some ⟨g, 0, none⟩)] W fun e w' => e = .returned (.bool true) ∧ Hid (∃ T, StO w.heap.size w w' g T ∧ (entO T).length ≤ k + 1)) := fun W h => by
        obtain ⟨T', t1, t2⟩ := h
        have := HT.out.2
        refine (shaped_any g T' W t1.tm (by omega)).mono ?_
        rintro e w' ⟨rfl, H⟩
        exact ⟨rfl, T', t1.below H.out, by omega⟩
      clear hsk hr
      by_cases hkd : s.kind = 3
      · have K := del_O w.heap.size w wr g T s.key HT.out.1 (by have := HT.out.2; omega)
        rw [hkd] at q0
        clear hkd HT
        go_wp2_with fail
        refine K.mono ?_
        clear K
        rintro e w3 ⟨v, rfl, H⟩
        have K := HShp.out w3 H.out
        clear H HShp q0 q2 hx1 hx2
        go_wp2_with fail
        refine K.mono ?_
        clear K
        rintro e w4 ⟨rfl, H⟩
        go_wp2
        go_roundw
        case rel => exact ⟨k + 1, by omega, by omega, by go_num, H.out⟩
        case measure => simp [intOf]; omega
      · have hkd' : (s.kind == 3) = false := beq_eq_false_iff_ne.2 hkd
        have K := put_O w.heap.size w wr g T s.key (by omega) (k : Int) HT.out.1 (by have := HT.out.2; omega)
        clear hkd HT
        go_wp2_with fail
        refine K.mono ?_
        clear K
        rintro e w3 ⟨v, rfl, H⟩
        have K := HShp.out w3 H.out
        clear H HShp q0 q2 hx1 hx2
        go_wp2_with fail
        refine K.mono ?_
        clear K
        rintro e w4 ⟨rfl, H⟩
        go_wp2
        go_roundw
        case rel => exact ⟨k + 1, by omega, by omega, by go_num, H.out⟩
        case measure => simp [intOf]; omega
#print axioms shapes_walk
end Go.Proofs.Yteokjfpppmnebaa
