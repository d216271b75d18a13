/-
  add: a table comes in.
-/
import Derived.Test.YtbkogaencjmmgaaCe
import Derived.BigQuiet
namespace Go.Proofs.Ytbkogaencjmmgaa
open Go.RowKit Go.MapKept
set_option linter.unusedVariables false
set_option linter.unusedSimpArgs false
set_option maxRecDepth 8000 in
set_option maxHeartbeats 2000000 in
theorem add_in (S : Nat → Prop) (g : Nat) (tv mv : Value) (dm : Nat) (L : List TV) (id : Int) (s : ByteArray) (hs : s.size ≤ 281474976710656) (w : World) (h : CM w g tv dm mv L) (hI : In S g tv mv L) :
    Calls Try.prog 22 #[.pointer (some ⟨g, 0, none⟩), .int .i64 id, .string s] w fun e w' => e = .returned (.int .i64 (addE (strip L) id s)) ∧ Hid (Cat w' (Nw S w w') g (addA (strip L) id s) ∧ Upd S w w') := by
  have HM : Hid (CM w g tv dm mv L) := h
  have HI : Hid (In S g tv mv L) := hI
  obtain ⟨n, hn⟩ : ∃ n, L.length = n := ⟨_, rfl⟩
  have HN : Hid (L.length = n) := hn
  have HNS : Hid ((strip L).length = n) := (strip_len L).trans hn
  obtain ⟨a, c, rfl, _, _⟩ := row_val h.row
  have c0 : w.cell? ⟨g, 0, none⟩ = some (.slice a n c) := by rw [← hn]; exact h.blk.cell 0
  have hn64 : n ≤ 64 := by have := h.ok.len; rw [HNS.out] at this; exact this
  have w1 : wrap64 ((n : Int) + 1) = (n : Int) + 1 := wrap_small (n := n + 1) (by omega) (by omega)
  have K := isName_any s w
  have K2 := named_any g (.slice a L.length c) mv dm L s w h
  have HE : Hid (∀ x : Int, addE (strip L) id s = x → x ≠ 0 → Hid (Cat w (Nw S w w) g (addA (strip L) id s) ∧ Upd S w w)) := fun x hx h0 => by
    refine ⟨?_, Upd.refl _ _⟩
    unfold addA
    rw [if_neg (by rw [hx]; exact h0)]
    exact Cat.mono ⟨_, dm, mv, L, HM.out, rfl, HI.out⟩ (fun x hx => .inl hx)
  have HA : Hid (addE (strip L) id s = if 64 ≤ n then 17 else if (decide (id ≠ (n : Int) + 1) || !nameB s) = true then 3 else if nam (strip L) s ≠ 0 then 8 else 0) := by
    show _ = _; unfold addE; rw [HNS.out]
  clear h hI hn
  by_cases h64 : 64 ≤ n
  · have h64' : (n : Int) ≥ 64 := by omega
    have e17 : addE (strip L) id s = 17 := by rw [HA.out, if_pos h64]
    have HF := HE.out 17 e17 (by decide)
    rw [e17]
    clear K K2 HE HA
    go_enter Try.func22, Try.ntmps22
    go_wp2
    go_ret
    exact ⟨rfl, HF.out⟩
  have h64' : ¬ (n : Int) ≥ 64 := by omega
  by_cases hid : id = (n : Int) + 1
  case neg =>
    have e3 : addE (strip L) id s = 3 := by rw [HA.out, if_neg h64, if_pos (by simp [hid])]
    have HF := HE.out 3 e3 (by decide)
    rw [e3]
    have hid' : (id == (n : Int) + 1) = false := beq_eq_false_iff_ne.2 hid
    clear K K2 HE HA
    go_enter Try.func22, Try.ntmps22
    go_wp2
    go_ret
    exact ⟨rfl, HF.out⟩
  subst hid
  cases hnm : nameB s with
  | false =>
    have e3 : addE (strip L) ((n : Int) + 1) s = 3 := by rw [HA.out, if_neg h64, if_pos (by simp [hnm])]
    have HF := HE.out 3 e3 (by decide)
    rw [e3]
    rw [hnm] at K
    clear K2 HE HA
    go_enter Try.func22, Try.ntmps22
    go_wp2_with (go_at_call 32; refine K.mono ?_; clear K; rintro e w' ⟨rfl, rfl⟩)
    go_ret
    exact ⟨rfl, HF.out⟩
  | true =>
    rw [hnm] at K
    have hs40 : s.size ≤ 40 := by
      have := hnm
      simp only [nameB, Bool.and_eq_true, decide_eq_true_eq] at this
      exact this.2
    by_cases hna : nam (strip L) s = 0
    case neg =>
      have e8 : addE (strip L) ((n : Int) + 1) s = 8 := by rw [HA.out, if_neg h64, if_neg (by simp [hnm]), if_pos hna]
      obtain ⟨q, hq⟩ : ∃ q, nam (strip L) s = q := ⟨_, rfl⟩
      rw [hq] at K2 hna
      have hna' : ¬ (q : Int) = 0 := by omega
      have HQ : Hid (addA (strip L) ((n : Int) + 1) s = strip L) := by show _ = _; unfold addA; rw [if_neg (by rw [e8]; decide)]
      rw [e8]
      clear HE HA hq e8
      go_enter Try.func22, Try.ntmps22
      go_wp2_with (first | (go_at_call 32; refine K.mono ?_; clear K; rintro e w' ⟨rfl, rfl⟩) | (go_at_call 27; refine K2.mono ?_; clear K2; rintro e w5 ⟨rfl, HB⟩))
      go_ret
      refine ⟨rfl, ?_, Upd.of_below _ HB.out⟩
      rw [HQ.out]
      exact Cat.mono ⟨_, dm, mv, L, HM.out.below HB.out, rfl, HI.out⟩ (fun x hx => .inl hx)
    have e0 : addE (strip L) ((n : Int) + 1) s = 0 := by rw [HA.out, if_neg h64, if_neg (by simp [hnm]), if_neg (by simp [hna])]
    have HQ : Hid (addA (strip L) ((n : Int) + 1) s = strip L ++ [⟨s, [], false⟩]) := by show _ = _; unfold addA; rw [if_pos e0]
    rw [hna] at K2
    rw [e0]
    clear HE HA hna e0
    go_enter Try.func22, Try.ntmps22
    go_wp2_with (go_at_call 32; refine K.mono ?_; clear K; rintro e w' ⟨rfl, hw⟩; have hw' := hw.symm; subst hw'; clear hw)
    refine K2.mono ?_
    clear K2
    rintro e w5 ⟨rfl, HB⟩
    have HM5 : Hid (CM w5 g (.slice a L.length c) dm mv L) := HM.out.below HB.out
    obtain ⟨C, hC⟩ : ∃ C : World → Prop, C = fun W => Below w5.heap.size w5 W := ⟨_, rfl⟩
    have F1 : Hid (∀ W, C W → W.cell? ⟨g, 0, none⟩ = some (.slice a n c)) := fun W hW => by rw [hC] at hW; exact (by have := (HM5.out.below hW).blk.cell 0; rw [← HN.out]; exact this)
    have CG : Hid (∀ w w', C w → Grow w w' → C w') := fun W W' h1 h2 => by rw [hC] at h1 ⊢; exact h1.trans (h2.mono h1.size)
    have CE : Hid (∀ W, C W → Below w5.heap.size w5 W) := fun W h => by rw [hC] at h; exact h
    have C0 : Hid (C { w5 with drawn := w5.drawn + 1 }) := by rw [hC]; exact Below.drew (Below.refl _ _)
    clear hC
    go_wp2_with fail
    refine region_grow [9, 12] (by kernel_rfl) ?_
    have hCp : ∀ p : Prop, (∀ W, C W → p) ↔ p := fun p => ⟨fun h => h _ C0.out, fun h _ _ => h⟩
    generalize ({ w5 with drawn := w5.drawn + 1 } : World) = y0 at *
    have hCq := anyw_p y0
    refine segF 12 [0] rfl (by kernel_rfl) whole_blind (by decide +kernel) ?_
    change wpQuiet _ _ _ _ (_ :: []) _
    repeat (first
      | go_big_quiet_skip
      | (go_big_quiet_want
         first
         | (go_big_quiet_op
            go_big_quiet_on)))
    refine wpQuiet_nil ?_
    clear hCq
    refine segR 7 [1, 2, 3, 4, 5] rfl (by kernel_rfl) whole_blind CG.out C0.out (by decide +kernel) ?_
    change wpQuiet _ _ _ _ (_ :: _ :: _ :: _ :: _ :: []) _
    repeat (first
      | go_big_quiet_skip
      | (go_big_quiet_want
         first
         | (refine q_cell 66 (by simp) (.tmp 36) rfl g 0 rfl _ F1.out ?_
            simp only [Act.put, List.setIfInBounds_toArray, List.set_cons_zero, List.set_cons_succ]
            go_big_quiet_on)
         | (go_big_quiet_op
            go_big_quiet_on)))
    refine wpQuiet_nil ?_
    refine one_ofR 6 rfl [6] (by decide +kernel) (by simp) fun j hj => ?_
    obtain rfl := List.mem_singleton.1 hj
    refine ⟨_, rfl, (by rfl), fun y1 hy1 K hK => ?_⟩
    have C1 : Hid (C y1) := CG.out _ _ C0.out hy1
    clear hy1
    refine oper_calls 33 _ _ rfl #[.string s] (by rw [List.map_toArray]; rfl) (enters Try.func33 (by kernel_rfl) rfl) (fun v w' => v = .string s ∧ Grow y1 w') ((sclone_any s hs y1).mono (by rintro e w' ⟨rfl, h⟩; exact ⟨_, rfl, rfl, h⟩)) ?_
    rintro v y2 ⟨rfl, g2⟩
    refine hK _ _ (.inr g2) ?_
    clear hK K
    simp only [Act.put, List.setIfInBounds_toArray, List.set_cons_zero, List.set_cons_succ]
    have C2 : Hid (C y2) := CG.out _ _ C1.out g2
    clear g2 C1 C0
    have hCq := anyw_p y2
    refine segF 5 [7] rfl (by kernel_rfl) whole_blind (by decide +kernel) ?_
    change wpQuiet _ _ _ _ (_ :: []) _
    repeat (first
      | go_big_quiet_skip
      | (go_big_quiet_want
         first
         | (go_big_quiet_op
            go_big_quiet_on)))
    refine wpQuiet_nil ?_
    clear hCq
    refine one_ofR 4 rfl [8] (by decide +kernel) (by simp) fun j hj => ?_
    obtain rfl := List.mem_singleton.1 hj
    refine ⟨_, rfl, (by rfl), fun y3 hy3 K hK => ?_⟩
    have C3 : Hid (C y3) := CG.out _ _ C2.out hy3
    clear hy3 C2
    refine bs_one 66 87 (.tmp 40) rfl Try.underlying66 2 (by decide) (by decide) _ szTb zvTb [.string s, .slice none 0 0] rfl rfl ?_
    obtain ⟨y4, hy4⟩ : ∃ y4, y4 = y3.alloc (.cells [Value.string s, .slice none 0 0].toArray 87) := ⟨_, rfl⟩
    have G4 : Grow y3 y4 := by rw [hy4]; exact (Grow.refl y3).alloc _
    have HB4 : Hid (Blk y4 y3.heap.size 87 [.string s, .slice none 0 0]) := by show Blk _ _ _ _; rw [hy4]; exact blk_new _ _ _
    rw [← hy4]
    clear hy4
    refine hK _ _ (.inr G4) ?_
    clear hK K
    simp only [Act.put, List.setIfInBounds_toArray, List.set_cons_zero, List.set_cons_succ]
    have C4 : Hid (C y4) := CG.out _ _ C3.out G4
    clear G4 C3
    generalize y3.heap.size = nb at *
    refine one_ofR 3 rfl [9] (by decide +kernel) (by simp) fun j hj => ?_
    obtain rfl := List.mem_singleton.1 hj
    refine ⟨_, rfl, (by rfl), fun y5 hy5 K hK => ?_⟩
    have C5 : Hid (C y5) := CG.out _ _ C4.out hy5
    have HB5 : Hid (Blk y5 nb 87 [.string s, .slice none 0 0]) := HB4.out.grow hy5
    clear hy5 C4 HB4
    have M5 := HM5.out.below (CE.out _ C5.out)
    refine oper_app (.tmp 37) (.tmp 41) 66 87 2 rfl (by decide) Try.underlying66 iTb (.slice a n c) n (tbs L) rfl (by have := M5.row; rw [HN.out] at this; exact this) (some ⟨nb, 0, none⟩) 1 1 rfl (by simp) [.string s, .slice none 0 0] rfl (fun ad e j u hj => by
      injection e with e
      subst e
      have := HB5.out.cell j
      rw [hj] at this
      rw [Addr.add_lit, Nat.zero_add]
      exact this) (one_str _ _ rfl) (by omega) ?_
    intro v' y6 hr6 hg6 ho6
    refine hK _ _ (.inl (by simp)) ?_
    clear hK K
    simp only [Act.put, List.setIfInBounds_toArray, List.set_cons_zero, List.set_cons_succ]
    obtain ⟨a', c', rfl, _, _⟩ := row_val hr6
    have HR6 : Hid (y6.ownsRow 0 87 2 (.slice a' (n + 1) c') (n + 1) (tbs L ++ [.string s, .slice none 0 0]) ∧ y5.grownBy y6 (Value.slice a n c).ownBlock ∧ ((Value.slice a' (n + 1) c').ownBlock = (Value.slice a n c).ownBlock ∨ (Value.slice a' (n + 1) c').ownBlock = some y5.heap.size)) := ⟨hr6, hg6, ho6⟩
    have HG6 : Hid (Blk y6 g 70 [.slice a n c, .int .u64 (dm : Int), mv]) := by
      have := M5.blk.kept hg6 (fun e => tag_ne M5.row M5.blk (by decide) (by rw [HN.out]; exact e.symm))
      rw [HN.out] at this
      exact this
    clear M5 hr6 hg6 ho6 HB5
    have hCq := anyw_p y6
    refine segF 1 [10, 11] rfl (by kernel_rfl) whole_blind (by decide +kernel) ?_
    change wpQuiet _ _ _ _ (_ :: _ :: []) _
    repeat (first
      | go_big_quiet_skip
      | (go_big_quiet_want
         first
         | (go_big_quiet_op
            go_big_quiet_on)))
    refine wpQuiet_nil ?_
    clear hCq
    refine one_ofR 0 rfl [12] (by decide +kernel) (by simp) fun j hj => ?_
    obtain rfl := List.mem_singleton.1 hj
    refine ⟨_, rfl, (by rfl), fun y7 hy7 K hK => ?_⟩
    have HG7 : Hid (Blk y7 g 70 [.slice a n c, .int .u64 (dm : Int), mv]) := HG6.out.grow hy7
    have HR7 : Hid (y7.ownsRow 0 87 2 (.slice a' (n + 1) c') (n + 1) (tbs L ++ [.string s, .slice none 0 0])) := own_upd HR6.out.1 (Upd.of_below Non hy7) (fun _ _ q => q)
    have HU7 : Hid (Upd (fun x => x = g ∨ (Value.slice a n c).ownBlock = some x) w y7) := by
      have u1 : Upd Non w y5 := Upd.of_below _ (HB.out.trans ((CE.out _ C5.out).mono HB.out.size))
      have u2 : Upd (fun x => x = g ∨ (Value.slice a n c).ownBlock = some x) y5 y6 := Upd.of_by HR6.out.2.1 (fun x hx => .inr hx)
      exact ((u1.mono (fun x q => q.elim)).trans u2 (fun x hx _ => hx)).trans (Upd.of_below _ hy7) (fun x hx _ => hx)
    have HO7 : Hid (∀ x, (Value.slice a' (n + 1) c').ownBlock = some x → (Value.slice a n c).ownBlock = some x ∨ w.heap.size ≤ x) := fun x hx => by
      have hsz : w.heap.size ≤ y5.heap.size := (HB.out.trans ((CE.out _ C5.out).mono HB.out.size)).size
      rcases HR6.out.2.2 with e | e
      · rw [e] at hx; exact .inl hx
      · rw [hx] at e; injection e with e; subst e; exact .inr hsz
    clear hy7 HR6 HG6 C5 CE CG F1 HM5
    refine oper_one 66 (.tmp 44) (.tmp 42) rfl g 0 70 _ (.slice a' (n + 1) c') rfl rfl rfl rfl (by show 0 < 3; decide) HG7.out s66 ?_
    intro y8 B8 G8
    refine hK _ _ (.inl (by simp)) ?_
    clear hK K
    simp only [Act.put, List.setIfInBounds_toArray, List.set_cons_zero, List.set_cons_succ]
    have HF : Hid (Cat y8 (Nw S w y8) g (strip L ++ [⟨s, [], false⟩]) ∧ Upd S w y8) := by
      have u8 : Upd (fun x => x = g ∨ (Value.slice a n c).ownBlock = some x) w y8 := HU7.out.trans (Upd.of_by G8 (S := fun x => x = g) (fun x hx => (Option.some.inj hx).symm)) (fun x hx _ => .inl hx)
      have r8 : y8.ownsRow 0 87 2 (.slice a' (n + 1) c') (n + 1) (tbs L ++ [.string s, .slice none 0 0]) := HR7.out.kept G8 (by
        right
        exact fun e => tag_ne HR7.out HG7.out (by decide) e)
      have m8 : CM y8 g (.slice a' (n + 1) c') dm mv (L ++ [(⟨s, [], false⟩, .slice none 0 0)]) := HM.out.added (by rw [HN.out]; omega) hs40 (u8.mono (S' := fun x => x = g ∨ (Value.slice a L.length c).ownBlock = some x) (fun x hx _ => by rw [HN.out]; exact hx)) B8 (by rw [HN.out]; exact r8)
      refine ⟨⟨_, dm, mv, _, m8, by simp [strip], HI.out.app (fun x hx => .inl hx) (fun x hx => ?_)⟩, u8.mono (fun x hx _ => ?_)⟩
      · rcases HO7.out x hx with e | e
        · exact .inl (HI.out.tv x (by rw [HN.out]; exact e))
        · exact .inr ⟨e, row_lt r8 hx⟩
      · rcases hx with rfl | e
        · exact HI.out.g
        · exact HI.out.tv x (by rw [HN.out]; exact e)
    clear B8 G8 HR7 HG7 HU7 HO7 HM HI
    refine doneR (by kernel_rfl) fun y9 hy => ?_
    have HF9 : Hid (Cat y9 (Nw S w y9) g (addA (strip L) ((n : Int) + 1) s) ∧ Upd S w y9) := by
      rw [HQ.out]
      exact ⟨(HF.out.1.below hy).mono (fun x hx => hx.imp id (fun q => ⟨q.1, Nat.lt_of_lt_of_le q.2 hy.size⟩)), HF.out.2.trans (Upd.of_below Non hy) (fun x q => q.elim)⟩
    clear hy HF
    go_wp2
    go_ret
    exact ⟨rfl, HF9.out⟩
#print axioms add_in
end Go.Proofs.Ytbkogaencjmmgaa
