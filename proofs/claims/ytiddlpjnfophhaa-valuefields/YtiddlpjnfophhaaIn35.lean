/-
  slices.Insert at strings and at values.
-/
import Derived.Test.YtiddlpjnfophhaaInl
namespace Go.Proofs.Ytiddlpjnfophhaa
open Go.RowKit
set_option linter.unusedVariables false
set_option maxRecDepth 8000 in
set_option maxHeartbeats 1000000 in
theorem insK_end (B : Nat) (v : Value) (n : Nat) (xs : List Value) (w : World) (ho : w.ownsRow B 25 6 v n xs) (hn : n ≤ 50000) (i : Nat) (b2 : Nat) (news : List Value) (hb2 : Blk w b2 25 news) (hnl : news.length = 6) (h1 : ∀ u ∈ news, u.oneCell' = true) (hx1 : ∀ u ∈ xs, u.oneCell' = true) (hne : v.ownBlock ≠ some b2) (hB : B ≤ w.heap.size) (hi : i = n) :
    Calls Try.prog 35 #[v, .int .i64 (i : Int), .slice (some ⟨b2, 0, none⟩) 1 1] w fun en w' => ∃ v', en = .returned v' ∧ Hid (w'.ownsRow B 25 6 v' (n + 1) (xs.take (i * 6) ++ (news ++ xs.drop (i * 6))) ∧ w.grownBy w' v.ownBlock ∧ (v'.ownBlock = v.ownBlock ∨ ∃ g, v'.ownBlock = some g ∧ w.heap.size ≤ g)) := by
  subst hi
  obtain ⟨A, cap, rfl⟩ : ∃ A cap, v = .slice A i cap := by
    rcases ho.2 with ⟨rfl, rfl⟩ | ⟨g, cap, cur, rfl, _⟩
    · exact ⟨none, 0, rfl⟩
    · exact ⟨_, cap, rfl⟩
  obtain ⟨i0, hi0, hz0, hz1, hz2⟩ := info_parts Try.info25
  have HO : Hid (w.ownsRow B 25 6 (.slice A i cap) i xs) := ho
  have HC : Hid (∀ j u, news[j]? = some u → w.cell? ((⟨b2, 0, none⟩ : Addr).add j) = some u) := fun j u hj => by rw [Addr.add_lit, Nat.zero_add, hb2.cell]; exact hj
  have HT : Hid (xs.take (i * 6) = xs ∧ xs.drop (i * 6) = []) := ⟨List.take_of_length_le (by rw [ho.1]; exact Nat.le_refl _), List.drop_of_length_le (by rw [ho.1]; exact Nat.le_refl _)⟩
  have HX : Hid ((news.length = 1 * 6) ∧ (∀ u ∈ news, u.oneCell' = true) ∧ B ≤ w.heap.size) := ⟨by omega, h1, hB⟩
  have HI : Hid _ := hi0
  have HZ : Hid (i0.zero = _ ∧ i0.size = _ ∧ i0.bytes = _) := ⟨hz0, hz1, hz2⟩
  clear ho hb2 hne hi0 hz0 hz1 hz2 h1 hx1 hnl hB
  go_enter Try.func35, Try.ntmps35
  go_wp2_with (refine sl_any rfl 23 (.tmp 10) (.tmp 11) rfl 25 Try.underlying23 6 sz25 A i cap i rfl rfl (Nat.le_refl _) ?_)
  intro A'
  go_wp2_with (at_builtin; go_must (refine wpList_append_own_at _ rfl (.tmp 23) (.tmp 24) 23 rfl B 25 i0 _ 6 88 Try.underlying23 HI.out HZ.out.1 HZ.out.2.1 HZ.out.2.2 rfl (by decide) _ _ _ rfl HO.out ⟨b2, 0, none⟩ 1 1 news rfl HX.out.1 HC.out HX.out.2.1 (by unfold maxLen; omega) (by omega) HX.out.2.2 ?_))
  intro v' w' r1 r2 _ r4
  have HR : Hid (w'.ownsRow B 25 6 v' (i + 1) (xs.take (i * 6) ++ (news ++ xs.drop (i * 6))) ∧ w.grownBy w' (Value.slice A i cap).ownBlock ∧ (v'.ownBlock = (Value.slice A i cap).ownBlock ∨ ∃ g, v'.ownBlock = some g ∧ w.heap.size ≤ g)) := by
    refine ⟨?_, r2, ?_⟩
    · rw [HT.out.1, HT.out.2, List.append_nil]
      exact r1
    · rcases r4 with h | h
      · exact .inl h
      · exact .inr ⟨_, h, Nat.le_refl _⟩
  clear r1 r2 r4
  go_wp2
  go_ret
  exact ⟨v', rfl, HR.out⟩
set_option maxRecDepth 8000 in
set_option maxHeartbeats 1000000 in
theorem insK_grow (B : Nat) (v : Value) (n : Nat) (xs : List Value) (w : World) (ho : w.ownsRow B 25 6 v n xs) (hn : n ≤ 50000) (i : Nat) (b2 : Nat) (news : List Value) (hb2 : Blk w b2 25 news) (hnl : news.length = 6) (h1 : ∀ u ∈ news, u.oneCell' = true) (hx1 : ∀ u ∈ xs, u.oneCell' = true) (hne : v.ownBlock ≠ some b2) (hB : B ≤ w.heap.size) (hi : i < n) (g cap : Nat) (hv : v = .slice (some ⟨g, 0, none⟩) n cap) (hroom : cap < n + 1) :
    Calls Try.prog 35 #[v, .int .i64 (i : Int), .slice (some ⟨b2, 0, none⟩) 1 1] w fun en w' => ∃ v', en = .returned v' ∧ Hid (w'.ownsRow B 25 6 v' (n + 1) (xs.take (i * 6) ++ (news ++ xs.drop (i * 6))) ∧ w.grownBy w' v.ownBlock ∧ (v'.ownBlock = v.ownBlock ∨ ∃ g, v'.ownBlock = some g ∧ w.heap.size ≤ g)) := by
  subst hv
  obtain ⟨i0, hi0, hz0, hz1, hz2⟩ := info_parts Try.info25
  have hnc : n ≤ cap := by
    rcases ho.2 with ⟨h, _⟩ | ⟨g', cap', cur, h, _, _, h3, _⟩
    · cases h
    · injection h with _ _ h; omega
  obtain ⟨A, D, hAD, hA, hD, eA, eD⟩ : ∃ A D, xs = A ++ D ∧ A.length = i * 6 ∧ D.length = (n - i) * 6 ∧ xs.take (i * 6) = A ∧ xs.drop (i * 6) = D := by
    refine ⟨xs.take (i * 6), xs.drop (i * 6), (List.take_append_drop _ _).symm, ?_, ?_, rfl, rfl⟩
    · rw [List.length_take, ho.1]; omega
    · rw [List.length_drop, ho.1]; omega
  have HOc : Hid (∀ j u, (A ++ D)[j]? = some u → w.cell? ⟨g, j, none⟩ = some u) := fun j u hj => by
    rw [← hAD] at hj
    have hl := (List.getElem?_eq_some_iff.1 hj).1
    rw [ho.1] at hl
    rw [World.ownsRow.cellAt ho j hl]
    exact hj
  have hgl := (World.ownsRow.lt ho g rfl)
  have HGl : Hid (g < w.heap.size ∧ b2 < w.heap.size) := ⟨hgl.2, hb2.lt⟩
  rw [eA, eD]
  have HC : Hid (∀ j u, A[j]? = some u → w.cell? ⟨g, j, none⟩ = some u) := fun j u hj => HOc.out j u (by rw [List.getElem?_append_left (List.getElem?_eq_some_iff.1 hj).1]; exact hj)
  have HB2 : Hid (Blk w b2 25 news) := hb2
  have H1 : Hid ((∀ u ∈ news, u.oneCell' = true) ∧ ∀ u ∈ D, u.oneCell' = true) := ⟨h1, fun u hu => hx1 u (by rw [hAD]; simp [hu])⟩
  have HI : Hid _ := hi0
  have HZ : Hid (i0.zero = _ ∧ i0.size = _ ∧ i0.bytes = _) := ⟨hz0, hz1, hz2⟩
  have HL : Hid (A.length = i * 6 ∧ D.length = (n - i) * 6 ∧ news.length = 6) := ⟨hA, hD, hnl⟩
  have HBw : Hid (B ≤ w.heap.size) := hB
  have hin : ((i : Int) == (n : Int)) = false := by simp; omega
  clear ho hb2 hne hi0 hz0 hz1 hz2 h1 hx1 hAD hA hD eA eD hgl hnl hB
  go_enter Try.func35, Try.ntmps35
  go_wp2_with (refine sl_any rfl 23 (.tmp 10) (.tmp 11) rfl 25 Try.underlying23 6 sz25 _ n cap i rfl rfl (by omega) ?_)
  intro A'
  go_wp2_with (first | (refine sl_to rfl 23 (.tmp 32) (.tmp 33) rfl 25 Try.underlying23 6 sz25 _ n cap i _ rfl rfl rfl (by omega) ?_) | (at_builtin; go_must (refine app_noughts rfl (.tmp 34) (.tmp 39) 23 3 rfl 25 i0 _ 6 88 Try.underlying23 Try.underlying3 HI.out HZ.out.1 HZ.out.2.1 HZ.out.2.2 rfl (by decide) g i cap (n + 1 - i) _ (by omega) rfl rfl A HL.out.1 HC.out (by omega) (by omega) (by omega) (by omega) ?_)))
  intro w1 G Zs hb1 hg1 hs1 hG hM hl
  have hG1 : n + 1 ≤ G := by omega
  have hlz : A.length + Zs.length = G * 6 := by first | omega | (simp only [List.length_append] at hl; omega)
  obtain ⟨Z1, Z2, Z3, rfl, hl1, hl2⟩ : ∃ Z1 Z2 Z3, Zs = Z1 ++ (Z2 ++ Z3) ∧ Z1.length = 6 ∧ Z2.length = D.length := by
    have e1 := HL.out
    have hG2 : (n + 1) * 6 ≤ G * 6 := Nat.mul_le_mul_right _ hG1
    refine ⟨Zs.take 6, (Zs.drop 6).take D.length, (Zs.drop 6).drop D.length, by rw [List.take_append_drop, List.take_append_drop], ?_, ?_⟩
    · rw [List.length_take]; omega
    · rw [List.length_take, List.length_drop]; omega
  have HB1 : Hid (Blk w1 w.heap.size 25 (A ++ (Z1 ++ (Z2 ++ Z3)))) := hb1
  have HG1 : Hid (w.grownBy w1 none) := hg1
  have HGG : Hid (G ≤ maxLen ∧ (A ++ (Z1 ++ (Z2 ++ Z3))).length = G * 6) := ⟨hM, by rw [List.length_append]; exact hlz⟩
  have HS1 : Hid (∀ j v, news[j]? = some v → w1.cell? ⟨b2, 0 + j, none⟩ = some v) := fun j u hj => by
    have := HB2.out.kept hg1 (by simp)
    rw [Nat.zero_add, this.cell]
    exact hj
  have HLz : Hid (news.length = Z1.length ∧ D.length = Z2.length) := ⟨by rw [HL.out.2.2, hl1], hl2.symm⟩
  clear hb1 hg1 hl hM hl1 hl2 hlz
  go_wp2_with (first | (refine sl_from rfl 23 (.tmp 41) (.tmp 42) rfl 25 Try.underlying23 6 sz25 _ _ _ _ i _ rfl rfl rfl (by omega) (by omega) ?_) | (refine cp_row rfl (.tmp 43) (.tmp 44) 23 rfl 25 6 Try.underlying23 s25 w.heap.size _ _ _ rfl b2 0 1 1 rfl 1 (by simp only [Nat.min_def]; split <;> omega) news A Z1 (Z2 ++ Z3) 25 (by have := HL.out.1; omega) HB1.out HLz.out.1 (by have := HL.out.2.2; omega) HS1.out H1.out.1 ?_))
  intro w2 hb2 hg2
  have HB3 : Hid (Blk w2 w.heap.size 25 (A ++ (news ++ (Z2 ++ Z3)))) := hb2
  have HGr : Hid (w.grownBy w2 none) := ⟨hg2.os.trans HG1.out.os, hg2.tape.trans HG1.out.tape, hg2.output.trans HG1.out.output, Nat.le_trans HG1.out.size hg2.size, fun k hk _ => (hg2.block k (Nat.lt_of_lt_of_le hk HG1.out.size) (by intro c; injection c with c; omega)).trans (HG1.out.block k hk (by simp))⟩
  have HSr : Hid (∀ j v, D[j]? = some v → w2.cell? ⟨g, i * 6 + j, none⟩ = some v) := fun j u hj => by
    have e := HGr.out.block g HGl.out.1 (by simp)
    rw [cell_keep e]
    refine HOc.out _ u ?_
    rw [List.getElem?_append_right (by have := HL.out.1; omega), HL.out.1, Nat.add_sub_cancel_left]
    exact hj
  clear hb2 hg2 HB1 HG1 HS1 HB2 HC
  go_wp2
  refine region_calm (fun _ => True) 8 (by kernel_rfl) ?_
  generalize hW0 : ({ w2 with drawn := w2.drawn + 1 } : World) = W0
  have HB0 : Hid (Blk W0 (w.heap.size) 25 (A ++ news ++ (Z2 ++ Z3))) := by
    rw [← hW0]
    have h := HB3.out
    simp only [← List.append_assoc] at h ⊢
    exact h
  have HSr0 : Hid (∀ j v, D[j]? = some v → W0.cell? ⟨g, i * 6 + j, none⟩ = some v) := by rw [← hW0]; exact HSr.out
  have HGr0 : Hid (w.grownBy W0 none) := by rw [← hW0]; exact ⟨HGr.out.os, HGr.out.tape, HGr.out.output, HGr.out.size, HGr.out.block⟩
  clear hW0
  have hCp : ∀ p : Prop, (∀ W : World, True → p) ↔ p := fun p => ⟨fun h => h W0 trivial, fun h _ _ => h⟩
  refine segT 1 [0, 1, 2, 3, 4, 5, 6, 7] rfl (fun _ => trivial) (by kernel_rfl) whole_blind trivial (by kernel_rfl) ?_
  change wpQuiet _ _ _ _ (_ :: _ :: _ :: _ :: _ :: _ :: _ :: _ :: []) _
  repeat (first
    | go_big_quiet_skip
    | (go_big_quiet_want
       first
       | (refine q_from 23 (.tmp 46) (.tmp 49) rfl 25 Try.underlying23 6 sz25 (w.heap.size) 0 _ _ (i + 1) _ (by omega) rfl rfl (by omega) (by omega) ?_
          simp only [Act.put, List.setIfInBounds_toArray, List.set_cons_zero, List.set_cons_succ]
          go_big_quiet_on)
       | (refine q_from 23 (.tmp 51) (.tmp 52) rfl 25 Try.underlying23 6 sz25 g 0 _ _ i _ rfl rfl rfl (by omega) (by omega) ?_
          simp only [Act.put, List.setIfInBounds_toArray, List.set_cons_zero, List.set_cons_succ]
          go_big_quiet_on)
       | (go_big_quiet_op
          go_big_quiet_on)))
  refine wpQuiet_nil ?_
  refine lone_last (i := 8) 0 rfl rfl (by kernel_rfl) rfl (by rfl) ?_
  intro K hK
  refine wp_cp (.tmp 50) (.tmp 53) 23 rfl 25 6 Try.underlying23 s25 (w.heap.size) _ _ _ rfl g _ _ _ rfl (n - i) (by simp only [Nat.min_def]; split <;> omega) D (A ++ news) Z2 Z3 25 (by have := HL.out; simp only [List.length_append]; omega) HB0.out HLz.out.2 HL.out.2.1 (fun j u hj => by have := HSr0.out j u hj; simpa using this) H1.out.2 ?_
  intro w3 hb3 hg3
  refine hK _ _ ?_
  clear hK K
  have HR : Hid (w3.ownsRow B 25 6 (.slice (some ⟨w.heap.size, 0, none⟩) (i + (n + 1 - i)) G) (n + 1) (A ++ (news ++ D)) ∧ w.grownBy w3 (Value.slice (some ⟨g, 0, none⟩) n cap).ownBlock ∧ ((Value.slice (some ⟨w.heap.size, 0, none⟩) (i + (n + 1 - i)) G).ownBlock = (Value.slice (some ⟨g, 0, none⟩) n cap).ownBlock ∨ ∃ g', (Value.slice (some ⟨w.heap.size, 0, none⟩) (i + (n + 1 - i)) G).ownBlock = some g' ∧ w.heap.size ≤ g')) := by
    have e1 := HL.out
    have e2 := HGG.out
    have hik : i + (n + 1 - i) = n + 1 := by omega
    refine ⟨⟨?_, .inr ⟨w.heap.size, G, _, by rw [hik], HBw.out, hb3, hG1, e2.1, ?_, ?_⟩⟩, ?_, .inr ⟨_, rfl, Nat.le_refl _⟩⟩
    · simp only [List.length_append]; omega
    · have h3 := e2.2
      have h4 := HLz.out
      simp only [List.length_append, List.size_toArray] at h3 ⊢
      omega
    · rw [show (A ++ news ++ (D ++ Z3)).toArray.toList = (A ++ (news ++ D)) ++ Z3 by simp]
      exact List.take_left' (by simp only [List.length_append]; omega)
    · have h5 := HGr0.out
      exact ⟨hg3.os.trans h5.os, hg3.tape.trans h5.tape, hg3.output.trans h5.output, Nat.le_trans h5.size hg3.size, fun k hk _ => (hg3.block k (Nat.lt_of_lt_of_le hk h5.size) (by intro c; injection c with c; omega)).trans (h5.block k hk (by simp))⟩
  clear hb3 hg3
  refine anyC_done (by kernel_rfl) ⟨rfl, ?_⟩
  simp only [Act.put]
  go_wp2
  go_ret
  exact ⟨_, rfl, HR.out⟩
set_option maxRecDepth 8000 in
set_option maxHeartbeats 1000000 in
theorem insK_room (B : Nat) (v : Value) (n : Nat) (xs : List Value) (w : World) (ho : w.ownsRow B 25 6 v n xs) (hn : n ≤ 50000) (i : Nat) (b2 : Nat) (news : List Value) (hb2 : Blk w b2 25 news) (hnl : news.length = 6) (h1 : ∀ u ∈ news, u.oneCell' = true) (hx1 : ∀ u ∈ xs, u.oneCell' = true) (hne : v.ownBlock ≠ some b2) (hB : B ≤ w.heap.size) (hi : i < n) (g cap : Nat) (hv : v = .slice (some ⟨g, 0, none⟩) n cap) (hroom : n + 1 ≤ cap) :
    Calls Try.prog 35 #[v, .int .i64 (i : Int), .slice (some ⟨b2, 0, none⟩) 1 1] w fun en w' => ∃ v', en = .returned v' ∧ Hid (w'.ownsRow B 25 6 v' (n + 1) (xs.take (i * 6) ++ (news ++ xs.drop (i * 6))) ∧ w.grownBy w' v.ownBlock ∧ (v'.ownBlock = v.ownBlock ∨ ∃ g, v'.ownBlock = some g ∧ w.heap.size ≤ g)) := by
  subst hv
  have hgl := (World.ownsRow.lt ho g rfl)
  obtain ⟨A, D, hAD, hA, hD, eA, eD⟩ : ∃ A D, xs = A ++ D ∧ A.length = i * 6 ∧ D.length = (n - i) * 6 ∧ xs.take (i * 6) = A ∧ xs.drop (i * 6) = D := by
    refine ⟨xs.take (i * 6), xs.drop (i * 6), (List.take_append_drop _ _).symm, ?_, ?_, rfl, rfl⟩
    · rw [List.length_take, ho.1]; omega
    · rw [List.length_drop, ho.1]; omega
  obtain ⟨D1, M1, Q2, hbk, hd1, hm1, htot, hcm⟩ : ∃ D1 M1 Q2, Blk w g 25 (A ++ (D1 ++ (M1 ++ Q2))) ∧ D1.length = 6 ∧ M1.length = D.length ∧ (A ++ (D1 ++ (M1 ++ Q2))).length = cap * 6 ∧ cap ≤ maxLen := by
    rcases ho.2 with ⟨h, _⟩ | ⟨g', cap', cur, h, _, hh, h3, h4, h5, h6⟩
    · cases h
    · injection h with h7 _ h8
      injection h7 with h7
      injection h7 with h7 _
      subst h7 h8
      have ht : cur.toList = A ++ cur.toList.drop (i * 6) := by
        have e1 : cur.toList.take (i * 6) = A := by
          rw [← eA, ← h6, List.take_take]
          congr 1
          have : i * 6 ≤ n * 6 := Nat.mul_le_mul_right _ (by omega)
          omega
        rw [← e1, List.take_append_drop]
      have hlen : cur.toList.length = cap * 6 := by rw [Array.length_toList, h5]
      have hle : (n + 1) * 6 ≤ cap * 6 := Nat.mul_le_mul_right _ hroom
      refine ⟨(cur.toList.drop (i * 6)).take 6, ((cur.toList.drop (i * 6)).drop 6).take D.length, ((cur.toList.drop (i * 6)).drop 6).drop D.length, ?_, ?_, ?_, ?_, h4⟩
      · rw [List.take_append_drop, List.take_append_drop, ← ht]
        exact hh
      · rw [List.length_take, List.length_drop]; omega
      · rw [List.length_take, List.length_drop, List.length_drop]; omega
      · rw [List.take_append_drop, List.take_append_drop, ← ht]
        exact hlen
  have HSr : Hid (∀ j v, D[j]? = some v → w.cell? ⟨g, i * 6 + j, none⟩ = some v) := fun j u hj => by
    have hl := (List.getElem?_eq_some_iff.1 hj).1
    rw [World.ownsRow.cellAt ho (i * 6 + j) (by omega), hAD, List.getElem?_append_right (by omega), hA, Nat.add_sub_cancel_left]
    exact hj
  rw [eA, eD]
  have hbne : b2 ≠ g := fun c => hne (by rw [c]; rfl)
  have hov : ∀ off lb cb, (callFunc 54 #[.slice (some ⟨b2, 0, none⟩) 1 1, .slice (some ⟨g, off, none⟩) lb cb]).run Try.prog w = .ok (.value (.bool false)) w := fun off lb cb => overlaps54 w b2 1 1 g off lb cb hbne news _ hb2 hbk (by rw [htot]; have : (n + 1) * 6 ≤ cap * 6 := Nat.mul_le_mul_right _ hroom; omega)
  have HBk : Hid (Blk w g 25 (A ++ (D1 ++ (M1 ++ Q2)))) := hbk
  have HB2 : Hid (Blk w b2 25 news ∧ b2 ≠ g) := ⟨hb2, hbne⟩
  have H1 : Hid ((∀ u ∈ news, u.oneCell' = true) ∧ ∀ u ∈ D, u.oneCell' = true) := ⟨h1, fun u hu => hx1 u (by rw [hAD]; simp [hu])⟩
  have HL : Hid (A.length = i * 6 ∧ D.length = (n - i) * 6 ∧ news.length = 6 ∧ D1.length = 6) := ⟨hA, hD, hnl, hd1⟩
  have HLz : Hid (news.length = D1.length ∧ D.length = M1.length) := ⟨by omega, hm1.symm⟩
  have HGG : Hid (cap ≤ maxLen ∧ (A ++ (D1 ++ (M1 ++ Q2))).length = cap * 6) := ⟨hcm, htot⟩
  have HBw : Hid (B ≤ g) := hgl.1
  have HGr : Hid (w.grownBy w none) := World.grownBy.refl _ _
  have hin : ((i : Int) == (n : Int)) = false := by simp; omega
  clear ho hb2 hne h1 hx1 hAD hA hD eA eD hgl hnl hB hbk hd1 hm1 htot hcm hbne
  go_enter Try.func35, Try.ntmps35
  go_wp2_with (refine sl_any rfl 23 (.tmp 10) (.tmp 11) rfl 25 Try.underlying23 6 sz25 _ n cap i rfl rfl (by omega) ?_)
  intro A'
  go_wp2_with (first | (refine sl_to rfl 23 (.tmp 56) (.tmp 59) rfl 25 Try.underlying23 6 sz25 _ n cap (n + 1) _ (by omega) rfl rfl (by omega) ?_) | (refine sl_from rfl 23 (.tmp 62) (.tmp 65) rfl 25 Try.underlying23 6 sz25 _ _ _ _ (i + 1) _ (by omega) rfl rfl (by omega) (by omega) ?_))
  refine region_calm (fun _ => True) 8 (by kernel_rfl) ?_
  generalize hW0 : ({ w with drawn := w.drawn + 1 } : World) = W0
  have HB0 : Hid (Blk W0 (g) 25 (A ++ D1 ++ (M1 ++ Q2))) := by
    rw [← hW0]
    have h := HBk.out
    simp only [← List.append_assoc] at h ⊢
    exact h
  have HSr0 : Hid (∀ j v, D[j]? = some v → W0.cell? ⟨g, i * 6 + j, none⟩ = some v) := by rw [← hW0]; exact HSr.out
  have HGr0 : Hid (w.grownBy W0 none) := by rw [← hW0]; exact ⟨HGr.out.os, HGr.out.tape, HGr.out.output, HGr.out.size, HGr.out.block⟩
  clear hW0
  have hCp : ∀ p : Prop, (∀ W : World, True → p) ↔ p := fun p => ⟨fun h => h W0 trivial, fun h _ _ => h⟩
  refine segT 1 [0, 1, 2, 3, 4, 5, 6, 7] rfl (fun _ => trivial) (by kernel_rfl) whole_blind trivial (by kernel_rfl) ?_
  change wpQuiet _ _ _ _ (_ :: _ :: _ :: _ :: _ :: _ :: _ :: _ :: []) _
  repeat (first
    | go_big_quiet_skip
    | (go_big_quiet_want
       first
       | (refine q_from 23 (.tmp 69) (.tmp 72) rfl 25 Try.underlying23 6 sz25 (g) 0 _ _ (i + 1) _ (by omega) rfl rfl (by omega) (by omega) ?_
          simp only [Act.put, List.setIfInBounds_toArray, List.set_cons_zero, List.set_cons_succ]
          go_big_quiet_on)
       | (refine q_from 23 (.tmp 74) (.tmp 75) rfl 25 Try.underlying23 6 sz25 g 0 _ _ i _ rfl rfl rfl (by omega) (by omega) ?_
          simp only [Act.put, List.setIfInBounds_toArray, List.set_cons_zero, List.set_cons_succ]
          go_big_quiet_on)
       | (go_big_quiet_op
          go_big_quiet_on)))
  refine wpQuiet_nil ?_
  refine lone_last (i := 8) 0 rfl rfl (by kernel_rfl) rfl (by rfl) ?_
  intro K hK
  refine wp_cp (.tmp 73) (.tmp 76) 23 rfl 25 6 Try.underlying23 s25 (g) _ _ _ rfl g _ _ _ rfl (n - i) (by simp only [Nat.min_def]; split <;> omega) D (A ++ D1) M1 Q2 25 (by have := HL.out; simp only [List.length_append]; omega) HB0.out HLz.out.2 HL.out.2.1 (fun j u hj => by have := HSr0.out j u hj; simpa using this) H1.out.2 ?_
  intro w3 hb3 hg3
  refine hK _ _ ?_
  clear hK K
  have HB3 : Hid (Blk w3 g 25 (A ++ (D1 ++ (D ++ Q2)))) := by
    have h := hb3
    simp only [List.append_assoc] at h
    exact h
  have HG3 : Hid (w.grownBy w3 (some g)) := ⟨hg3.os.trans HGr0.out.os, hg3.tape.trans HGr0.out.tape, hg3.output.trans HGr0.out.output, Nat.le_trans HGr0.out.size hg3.size, fun k hk hn => (hg3.block k (Nat.lt_of_lt_of_le hk HGr0.out.size) hn).trans (HGr0.out.block k hk (by simp))⟩
  have HS3 : Hid (∀ j v, news[j]? = some v → w3.cell? ⟨b2, 0 + j, none⟩ = some v) := fun j u hj => by
    have := HB2.out.1.kept HG3.out (by intro c; injection c with c; exact HB2.out.2 c)
    rw [Nat.zero_add, this.cell]
    exact hj
  clear hb3 hg3 HB0 HSr0 HGr0 HSr HGr HBk hov
  refine anyC_done (by kernel_rfl) ⟨rfl, ?_⟩
  simp only [Act.put]
  go_wp2_with (first | (refine sl_from rfl 23 (.tmp 78) (.tmp 79) rfl 25 Try.underlying23 6 sz25 _ _ _ _ i _ rfl rfl rfl (by omega) (by omega) ?_) | (refine cp_row rfl (.tmp 80) (.tmp 81) 23 rfl 25 6 Try.underlying23 s25 g _ _ _ rfl b2 0 1 1 rfl 1 (by simp only [Nat.min_def]; split <;> omega) news A D1 (D ++ Q2) 25 (by have := HL.out.1; omega) HB3.out HLz.out.1 (by have := HL.out.2.2; omega) HS3.out H1.out.1 ?_))
  intro w4 hb4 hg4
  have HR : Hid (w4.ownsRow B 25 6 (.slice (some ⟨g, 0, none⟩) (n + 1) cap) (n + 1) (A ++ (news ++ D)) ∧ w.grownBy w4 (Value.slice (some ⟨g, 0, none⟩) n cap).ownBlock ∧ ((Value.slice (some ⟨g, 0, none⟩) (n + 1) cap).ownBlock = (Value.slice (some ⟨g, 0, none⟩) n cap).ownBlock ∨ ∃ g', (Value.slice (some ⟨g, 0, none⟩) (n + 1) cap).ownBlock = some g' ∧ w.heap.size ≤ g')) := by
    have e1 := HL.out
    have e2 := HGG.out
    refine ⟨⟨?_, .inr ⟨g, cap, _, rfl, HBw.out, hb4, hroom, e2.1, ?_, ?_⟩⟩, ?_, .inl rfl⟩
    · simp only [List.length_append]; omega
    · have h3 := e2.2
      have h4 := HLz.out
      simp only [List.length_append, List.size_toArray] at h3 ⊢
      omega
    · rw [show (A ++ (news ++ (D ++ Q2))).toArray.toList = (A ++ (news ++ D)) ++ Q2 by simp]
      exact List.take_left' (by simp only [List.length_append]; omega)
    · exact HG3.out.trans hg4
  clear hb4 hg4
  go_wp2
  go_ret
  exact ⟨_, rfl, HR.out⟩
theorem insK (B : Nat) (v : Value) (n : Nat) (xs : List Value) (w : World) (ho : w.ownsRow B 25 6 v n xs) (hn : n ≤ 50000) (i : Nat) (b2 : Nat) (news : List Value) (hb2 : Blk w b2 25 news) (hnl : news.length = 6) (h1 : ∀ u ∈ news, u.oneCell' = true) (hx1 : ∀ u ∈ xs, u.oneCell' = true) (hne : v.ownBlock ≠ some b2) (hB : B ≤ w.heap.size) (hi : i ≤ n) :
    Calls Try.prog 35 #[v, .int .i64 (i : Int), .slice (some ⟨b2, 0, none⟩) 1 1] w fun en w' => ∃ v', en = .returned v' ∧ Hid (w'.ownsRow B 25 6 v' (n + 1) (xs.take (i * 6) ++ (news ++ xs.drop (i * 6))) ∧ w.grownBy w' v.ownBlock ∧ (v'.ownBlock = v.ownBlock ∨ ∃ g, v'.ownBlock = some g ∧ w.heap.size ≤ g)) := by
  by_cases h : i = n
  · exact insK_end B v n xs w ho hn i b2 news hb2 hnl h1 hx1 hne hB h
  · obtain ⟨g, cap, hv⟩ : ∃ g cap, v = .slice (some ⟨g, 0, none⟩) n cap := by
      rcases ho.2 with ⟨_, e⟩ | ⟨g, cap, cur, e, _⟩
      · omega
      · exact ⟨g, cap, e⟩
    by_cases hr : cap < n + 1
    · exact insK_grow B v n xs w ho hn i b2 news hb2 hnl h1 hx1 hne hB (by omega) g cap hv hr
    · exact insK_room B v n xs w ho hn i b2 news hb2 hnl h1 hx1 hne hB (by omega) g cap hv (by omega)
end Go.Proofs.Ytiddlpjnfophhaa
