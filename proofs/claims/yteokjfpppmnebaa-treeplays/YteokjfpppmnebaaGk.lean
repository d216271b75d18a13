/-
  TreePlays.
-/
import Derived.Test.YteokjfpppmnebaaGj
import Derived.Test.YteokjfpppmnebaaPq
namespace Go.Proofs.Yteokjfpppmnebaa
open Go.RowKit Go.Shelf
set_option linter.unusedVariables false
set_option linter.unusedSimpArgs false
theorem anyR_less {P : Program} {ops : Array Oper} {Z : List Nat} {Q : Exit → Act → World → Prop} : ∀ (n : Nat) (listed : Array Bool) (a : Act) (w : World), anyR P ops [] Q n listed a w → anyR P ops Z Q n listed a w
  | 0, _, _, _, h => h
  | n + 1, _, _, _, h => fun w' g => ⟨(h w' g).1, fun i hi => wpOp_mono (fun a' w'' q => ⟨.inr (q.1.resolve_left (by simp)), anyR_less n _ _ _ q.2⟩) ((h w' g).2 i hi)⟩
theorem q_lenS {C : World → Prop} {a : Act} {o : Oper} {K : Act → Prop} (x : Operand) (ho : o.op = .call { callee := .builtin .len, args := #[x], argTypes := #[28] }) (ad : Option Addr) (n c : Nat) (hx : a.eval x = .slice ad n c) (hk : K (a.put o.dst (.int .i64 (n : Int)))) : o.quiet Try.prog a C K :=
  ⟨_, fun w hw => by
    unfold Oper.quietAt execOp
    simp only [ho, resolve, invoke, builtin, Sem.run_bind, Sem.run_pure, Result.andThen_ok, List.map_toArray, List.map_cons, List.map_nil, hx]
    go_simp, hk⟩
/-- A pair of copies, behind what is done to the old tree. -/
theorem PI.copied {w W W1 W2 W3 W4 : World} {g g' a b : Nat} {T T' T2 : Option (Nat × B)} {M : List E} {K N K' N' : Value} (h : PI w W g T M a K N) (t : TreeS W1 g' T' M) (tn : ∀ y ∈ fpO T', W.heap.size ≤ y) (gn : W.heap.size ≤ g') (z1 : Below W.heap.size W W1)
    (z2 : Below W1.heap.size W1 W2) (r : RO W2 b K' N' M) (rn : ∀ x ∈ fpR b K' N', W1.heap.size ≤ x) (u3 : Upd (g :: fpO T) W2 W3) (f3 : ∀ y ∈ fpO T2, y ∈ fpO T ∨ W2.heap.size ≤ y) (u4 : Upd (g :: fpO T2) W3 W4) : PI w W4 g' T' M b K' N' := by
  have hgl := h.ts.glt
  have hfl := h.ts.flt
  have s1 := z1.size
  have s2 := z2.size
  have t2 := t.below0 z2
  have tl := t2.flt
  have tg := t2.glt
  have rl := r.lt
  have no3 : ∀ x, W.heap.size ≤ x → x < W2.heap.size → x ∉ g :: fpO T := fun x h1 h2 q => by
    rcases List.mem_cons.1 q with q | q
    · omega
    · have := hfl x q; omega
  have no4 : ∀ x, W.heap.size ≤ x → x < W2.heap.size → x ∉ g :: fpO T2 := fun x h1 h2 q => by
    rcases List.mem_cons.1 q with q | q
    · omega
    · rcases f3 x q with q | q
      · have := hfl x q; omega
      · omega
  have tT : ∀ y ∈ fpO T', y < W2.heap.size := tl
  refine ⟨(t2.upd u3 (no3 g' gn tg) (fun x hx => no3 x (tn x hx) (tT x hx))).upd u4 (no4 g' gn tg) (fun x hx => no4 x (tn x hx) (tT x hx)), (r.upd u3 (fun x hx => no3 x (Nat.le_trans s1 (rn x hx)) (rl x hx))).upd u4 (fun x hx => no4 x (Nat.le_trans s1 (rn x hx)) (rl x hx)), fun x hx => ?_, fun x hx => ?_, ?_, h.sz⟩
  · have := h.bl.size
    rcases List.mem_cons.1 hx with rfl | hx
    · omega
    · have := tn x hx; omega
  · have := rn x hx; have := h.bl.size; omega
  · have b2 := (h.bl.trans (z1.mono h.bl.size)).trans (z2.mono (Nat.le_trans h.bl.size s1))
    have b3 := Upd.below b2 u3 (Nat.le_refl _) h.lo
    refine Upd.below b3 u4 (Nat.le_refl _) (fun x hx => ?_)
    rcases List.mem_cons.1 hx with rfl | hx
    · exact h.lo _ (by simp)
    · rcases f3 x hx with q | q
      · exact h.lo x (by simp [q])
      · exact Nat.le_trans b2.size q
theorem sStp {s : Stp} : (Try.prog.info? 33).map (·.size) = some (stC s).length := by kernel_rfl
theorem q_callV {C : World → Prop} {a : Act} {o : Oper} {K : Act → Prop} (k : Nat) (xs : Array Operand) (ts : Array TypeId)
    (hop : o.op = Op.call { callee := Callee.value (Operand.func k), args := xs, argTypes := ts }) (args : Array Value) (hargs : xs.map a.eval = args)
    (hent : ∀ (args : Array Value) (w : World), (callFunc k args).run Try.prog w = .ok (.enter k args) w) (v : Value)
    (hc : ∀ w, C w → Calls Try.prog k args w fun e w' => e = .returned v ∧ C w') (hk : K (a.put o.dst v)) : o.quiet Try.prog a C K :=
  ⟨v, fun w hw => by
    unfold Oper.quietAt
    have : (execOp a.eval o).run Try.prog w = .ok (.enter k args) w := by
      simp [execOp, hop, resolve, invoke, Act.eval, hargs, hent, Deferred.ofValue]
    rw [this]
    exact ⟨rfl, hc w hw⟩, hk⟩
set_option maxRecDepth 8000 in
set_option maxHeartbeats 2000000 in
theorem plays_walk (a0 : Option Addr) (cap : Nat) (l : List Stp) (w : World) (hs : Scr w a0 l) (hz : ∀ s ∈ l, s.key.size ≤ 140737488355328 ∧ s.to.size ≤ 140737488355328) :
    Calls Try.prog 3 #[.slice a0 l.length cap] w fun e w' => e = .returned (.bool true) ∧ Hid (Below w.heap.size w w') := by
  have HS : Hid (Scr w a0 l) := hs
  have HZ : Hid (∀ s ∈ l, s.key.size ≤ 140737488355328 ∧ s.to.size ≤ 140737488355328) := hz
  have KC := heavy_any a0 cap l w hs hz
  clear hs hz
  go_enter Try.func3, Try.ntmps3
  go_wp2_with fail
  refine KC.mono ?_
  clear KC
  rintro e w1 ⟨⟨t, rfl⟩, H⟩
  have HB1 : Hid (Below w.heap.size w w1) := H.out
  clear H
  cases t with
  | true =>
    have KC := known_any w1
    go_wp2_with fail
    refine KC.mono ?_
    clear KC
    rintro e w2 ⟨rfl, H⟩
    have HF : Hid (Below w.heap.size w w2) := HB1.out.trans (H.out.mono HB1.out.size)
    clear H HB1
    go_wp2
    go_ret
    exact ⟨rfl, HF.out⟩
  | false =>
    have KC := new_any w1
    go_wp2_with fail
    refine KC.mono ?_
    clear KC
    rintro e w2 ⟨g, rfl, H⟩
    have HO : Hid (TreeS w2 g none [] ∧ w.heap.size ≤ g ∧ Below w.heap.size w w2) := ⟨⟨H.out.1, rfl, List.Pairwise.nil⟩, by have := H.out.2.1; have := HB1.out.size; omega, HB1.out.grown H.out.2.2 HB1.out.size (by simp)⟩
    clear H HB1
    go_wp2_with (refine al_box rfl 31 (.tmp 13) rfl [.slice none 0 0, .slice none 0 0] rfl ?_)
    intro a w3 l3 B3 G3
    have HP0 : Hid (PI w w3 g none [] a (.slice none 0 0) (.slice none 0 0)) := by
      obtain ⟨h1, h2, h3⟩ := HO.out
      refine ⟨h1.upd (Upd.of_none [] G3) (by simp) (by simp), ⟨B3, World.ownsRow_nil _ _ _ _, World.ownsRow_nil _ _ _ _⟩, fun x hx => ?_, fun x hx => ?_, h3.grown G3 h3.size (by simp), by simp⟩
      · obtain rfl : x = g := by simpa [fpO] using hx
        exact h2
      · have hx : x = a := by simpa [fpR, Value.ownBlock, obl] using hx
        rw [hx]
        exact Nat.le_trans h3.size l3
    clear HO B3 G3 l3
    go_wp2_with fail
    go_loopw [3, 4, 5, 6] (fun tv wv iv ov wr => ∃ (i g : Nat) (T : Option (Nat × B)) (M : List E) (a : Nat) (K N : Value), i ≤ l.length ∧ i ≤ 400 ∧ tv = .pointer (some ⟨g, 0, none⟩) ∧ wv = .pointer (some ⟨a, 0, none⟩) ∧ iv = .int .i64 (i : Int) ∧ Hid (PI w wr g T M a K N ∧ M.length ≤ i)) (fun _ _ iv _ _ => 400 - (intOf iv).toNat)
    case atStart => exact ⟨0, g, none, [], a, _, _, Nat.zero_le _, Nat.zero_le _, rfl, rfl, rfl, HP0.out, by simp⟩
    case round =>
      clear HP0
      obtain ⟨i, g, T, M, a, K, N, hil, hi4, rfl, rfl, rfl, HR⟩ := hrel
      by_cases hlt : i < l.length ∧ i < 400
      case pos =>
        obtain ⟨hl1, hl2⟩ := hlt
        have hl1' : (i : Int) < (l.length : Int) := by omega
        have hl2' : (i : Int) < 400 := by omega
        obtain ⟨s, hsi⟩ : ∃ s, l[i]? = some s := ⟨_, List.getElem?_eq_getElem hl1⟩
        have HSI : Hid (s.key.size ≤ 140737488355328 ∧ s.to.size ≤ 140737488355328) := HZ.out s (List.mem_of_getElem? hsi)
        have HSW : Hid (∀ W, Below w.heap.size w W → ∃ b off, a0 = some ⟨b, off, none⟩ ∧ W.rangeAt b (off + i * 4) (stC s)) := fun W z => (HS.out.below z).at hsi
        have HRB : Hid (Below w.heap.size w wr) := HR.out.1.bl
        obtain ⟨b0, off, ea, _⟩ := HSW.out wr HRB.out
        have HSC : Hid (∀ W, Below w.heap.size w W → W.rangeAt b0 (off + i * 4) (stC s)) := fun W z => by
          obtain ⟨b1, off1, e1, h1⟩ := HSW.out W z
          rw [ea] at e1
          injection e1 with e1
          injection e1 with e1 e2
          subst e1 e2
          exact h1
        subst ea
        obtain ⟨k, n, key, to⟩ := s
        have q0 : wr.cell? ⟨b0, off + i * 4 + 0, none⟩ = some (.int .i64 k) := HSC.out wr HRB.out 0 _ rfl
        have q0' : wr.cell? ⟨b0, off + i * 4, none⟩ = some (.int .i64 k) := q0
        have hx1 : ¬ ((i : Int) < 0) := by omega
        have hx2 : ¬ ((l.length : Int) ≤ (i : Int)) := by omega
        clear hsi HSW hl1 HZ
        by_cases h6 : k = 6
        · subst h6
          have KC := copy_S wr g T M HR.out.1.ts (by have := HR.out.2; omega)
          go_wp2_with fail
          refine KC.mono ?_
          clear KC
          rintro e w4 ⟨g2, rfl, H⟩
          have HT : Hid (∃ T', TreeS w4 g2 T' M ∧ (∀ y ∈ fpO T', wr.heap.size ≤ y) ∧ wr.heap.size ≤ g2 ∧ Below wr.heap.size wr w4) := H.out
          have H4 : Hid (Below wr.heap.size wr w4) := by obtain ⟨_, _, _, _, h⟩ := H.out; exact h
          have KC := rcopy_any (HR.out.1.ro.below H4.out) (by have := HR.out.2; omega)
          clear H q0 q0'
          go_wp2_with fail
          refine KC.mono ?_
          clear KC
          rintro e w5 ⟨b, rfl, H⟩
          have H5 : Hid (Below w4.heap.size w4 w5 ∧ ∃ K' N', RO w5 b K' N' M ∧ ∀ x ∈ fpR b K' N', w4.heap.size ≤ x) := H.out
          have HP5 : Hid (PI w w5 g T M a K N) := (HR.out.1.below H4.out).below H5.out.1
          obtain ⟨old, is, hG⟩ := getL_ex HP5.out.ts.srt ⟨#[115, 112, 111, 105, 108, 116]⟩
          have KC := put_M w5 g T M ⟨#[115, 112, 111, 105, 108, 116]⟩ (by decide) 1 old is hG HP5.out.ts (by have := HR.out.2; omega)
          have HG : Hid ((putL M ⟨#[115, 112, 111, 105, 108, 116]⟩ 1 is).length ≤ M.length + 1) := putL_len hG 1
          clear H hG
          go_wp2_with fail
          refine KC.mono ?_
          clear KC
          rintro e w6 ⟨rfl, H⟩
          obtain ⟨T2, p1, p2, p3⟩ := H.out
          have HB6 : Hid (Below w.heap.size w w6) := Upd.below HP5.out.bl p3 (Nat.le_refl _) HP5.out.lo
          have q2 : w6.cell? ⟨b0, off + i * 4 + 2, none⟩ = some (.string key) := HSC.out w6 HB6.out 2 _ rfl
          obtain ⟨old2, is2, hG2⟩ := getL_ex p1.srt key
          have KC := del_M w6 g T2 _ key old2 is2 hG2 p1 (by have := HG.out; have := HR.out.2; omega)
          have HT6 : Hid ((∀ y ∈ fpO T2, y ∈ fpO T ∨ w5.heap.size ≤ y) ∧ Upd (g :: fpO T) w5 w6) := ⟨p2, p3⟩
          clear H p1 p2 p3 hG2
          go_wp2_with fail
          refine KC.mono ?_
          clear KC
          rintro e w7 ⟨rfl, H⟩
          have HX : Hid (∃ T M K N, PI w w7 g2 T M b K N ∧ M.length ≤ i + 1) := by
            obtain ⟨T3, s1, s2, s3⟩ := H.out
            obtain ⟨T', t1, t2, t3, t4⟩ := HT.out
            obtain ⟨r1, K', N', r2, r3⟩ := H5.out
            exact ⟨T', M, K', N', PI.copied HR.out.1 t1 t2 t3 t4 r1 r2 r3 HT6.out.2 HT6.out.1 s3, by have := HR.out.2; omega⟩
          clear H HT H4 H5 HP5 HG HB6 HT6 HR HRB HSC HSI q2
          go_wp2
          go_roundw
          case rel =>
            obtain ⟨T', M', K', N', hp, hl⟩ := HX.out
            exact ⟨i + 1, g2, T', M', b, K', N', by omega, by omega, rfl, rfl, by go_num, hp, hl⟩
          case measure => simp [intOf]; omega
        · have h6' : (k == 6) = false := by simpa using h6
          have HRR : Hid (PI w wr g T M a K N ∧ M.length ≤ i) := HR.out
          obtain ⟨C, hC⟩ : ∃ C : World → Prop, C = fun W => Below wr.heap.size wr W := ⟨_, rfl⟩
          have F0 : Hid (∀ W, C W → W.rangeAt b0 (off + i * 4) (stC ⟨k, n, key, to⟩)) := fun W hW => by rw [hC] at hW; exact HSC.out W (HRB.out.trans (hW.mono HRB.out.size))
          have CG : Hid (∀ w w', C w → Grow w w' → C w') := fun W W' h1 h2 => by rw [hC] at h1 ⊢; exact h1.trans (h2.mono h1.size)
          have CE : Hid (∀ W, C W → Below wr.heap.size wr W) := fun W h => by rw [hC] at h; exact h
          have C0 : Hid (C { wr with drawn := wr.drawn + 1 }) := by rw [hC]; exact Below.drew (Below.refl _ _)
          clear hC
          go_wp2_with fail
          clear q0 q0' HR
          refine region_grow [6] (by kernel_rfl) ?_
          have hCp : ∀ p : Prop, (∀ W, C W → p) ↔ p := fun p => ⟨fun h => h _ C0.out, fun h _ _ => h⟩
          generalize ({ wr with drawn := wr.drawn + 1 } : World) = y0 at *
          refine segR 12 [0, 1, 2, 3, 4, 5] rfl (by kernel_rfl) whole_blind CG.out C0.out (by decide +kernel) ?_
          change wpQuiet _ _ _ _ (_ :: _ :: _ :: _ :: _ :: _ :: []) _
          repeat (first
            | go_big_quiet_skip
            | (go_big_quiet_want
               first
               | (refine q_load 33 (.tmp 51) rfl b0 (off + i * 4) rfl (stC ⟨k, n, key, to⟩) _ F0.out Try.underlying33 rfl sStp ?_
                  simp only [Act.put, List.setIfInBounds_toArray, List.set_cons_zero, List.set_cons_succ]
                  go_big_quiet_on)
               | (go_big_quiet_op
                  go_big_quiet_on)))
          refine wpQuiet_nil ?_
          refine one_ofR 11 rfl [6] (by decide +kernel) (by simp) fun j hj => ?_
          obtain rfl := List.mem_singleton.1 hj
          refine ⟨_, rfl, (by rfl), fun y1 hy1 Kq hKq => ?_⟩
          have C1 : Hid (C y1) := CG.out _ _ C0.out hy1
          clear hy1
          refine oper_calls 15 _ _ rfl #[.pointer (some ⟨g, 0, none⟩), .pointer (some ⟨a, 0, none⟩), .agg (stC ⟨k, n, key, to⟩).toArray] (by rw [List.map_toArray]; rfl) (enters Try.func15 (by kernel_rfl) rfl) (fun v w' => v = .bool true ∧ Hid (∃ T' M' K' N', PI w w' g T' M' a K' N' ∧ M'.length ≤ M.length + 1)) ((does_any w y1 g T M a K N (HRR.out.1.below (CE.out _ C1.out)) (by have := HRR.out.2; omega) ⟨k, n, key, to⟩ HSI.out).mono (by rintro e w' ⟨rfl, h⟩; exact ⟨_, rfl, rfl, h⟩)) ?_
          rintro v w5 ⟨rfl, H⟩
          refine hKq _ _ (.inl (by simp)) ?_
          clear hKq Kq
          simp only [Act.put, List.setIfInBounds_toArray, List.set_cons_zero, List.set_cons_succ]
          obtain ⟨T', M', K', N', hp5, hm5⟩ := H.out
          have HP5 : Hid (PI w w5 g T' M' a K' N' ∧ M'.length ≤ i + 1) := ⟨hp5, by have := HRR.out.2; omega⟩
          clear H hp5 hm5 C0 C1 hCp CE CG F0 HRR HSC HSI HRB
          refine anyR_less _ _ _ _ ?_
          obtain ⟨ka, kc, hkv, _, _⟩ := row_val HP5.out.1.ro.key
          subst hkv
          obtain ⟨m, hm⟩ : ∃ m, M'.length = m := ⟨_, rfl⟩
          have HM : Hid (M'.length = m) := hm
          clear hm
          obtain ⟨C, hC⟩ : ∃ C : World → Prop, C = fun W => Below w5.heap.size w5 W := ⟨_, rfl⟩
          have F1 : Hid (∀ W, C W → W.cell? ⟨a, 0, none⟩ = some (.slice ka m kc)) := fun W hW => by
            rw [hC] at hW
            rw [← HM.out]
            exact (HP5.out.1.below hW).ro.tree.cell 0
          have F2 : Hid (∀ W, C W → Calls Try.prog 16 #[.pointer (some ⟨g, 0, none⟩)] W fun e w' => e = .returned (.int .i64 (m : Int)) ∧ Grow W w') := fun W hW => by
            have hW' := hW
            rw [hC] at hW'
            have hts := (HP5.out.1.below hW').ts
            have h := lenO_any g T' W hts.tm
            rw [hts.ent, HM.out] at h
            refine h.mono ?_
            rintro e w' ⟨rfl, rfl⟩
            exact ⟨rfl, Grow.refl _⟩
          have CG : Hid (∀ w w', C w → Grow w w' → C w') := fun W W' h1 h2 => by rw [hC] at h1 ⊢; exact h1.trans (h2.mono h1.size)
          have CE : Hid (∀ W, C W → Below w5.heap.size w5 W) := fun W h => by rw [hC] at h; exact h
          have C0 : Hid (C w5) := by rw [hC]; exact Below.refl _ _
          clear hC
          have hCp : ∀ p : Prop, (∀ W, C W → p) ↔ p := fun p => ⟨fun h => h _ C0.out, fun h _ _ => h⟩
          refine segR 4 [7, 8, 9, 11, 12, 13, 14] rfl (by kernel_rfl) whole_blind CG.out C0.out (by decide +kernel) ?_
          change wpQuiet _ _ _ _ (_ :: _ :: _ :: _ :: _ :: _ :: _ :: []) _
          repeat (first
            | go_big_quiet_skip
            | (go_big_quiet_want
               first
               | (refine q_slv 28 (.inl rfl) (.tmp 60) rfl a 0 rfl _ _ _ F1.out ?_
                  simp only [Act.put, List.setIfInBounds_toArray, List.set_cons_zero, List.set_cons_succ]
                  go_big_quiet_on)
               | (go_big_quiet_op
                  go_big_quiet_on)))
          refine wpQuiet_nil ?_
          refine callR (i := 10) 3 rfl (by kernel_rfl) whole_blind CG.out C0.out rfl (by decide +kernel) (by rfl) 16 (.func 16) _ _ rfl rfl #[.pointer (some ⟨g, 0, none⟩)] (by rw [List.map_toArray]; rfl) (enters Try.func16 (by kernel_rfl) rfl) (.int .i64 (m : Int)) F2.out ?_
          simp only [Act.put, List.setIfInBounds_toArray, List.set_cons_zero, List.set_cons_succ]
          refine lenR (i := 15) 2 rfl (by kernel_rfl) whole_blind CG.out C0.out rfl (by decide +kernel) (by rfl) (.tmp 61) 28 rfl 9 Try.underlying28 ka m kc rfl ?_
          simp only [Act.put, List.setIfInBounds_toArray, List.set_cons_zero, List.set_cons_succ]
          refine segR 0 [16, 17] rfl (by kernel_rfl) whole_blind CG.out C0.out (by decide +kernel) ?_
          change wpQuiet _ _ _ _ (_ :: _ :: []) _
          repeat (first
            | go_big_quiet_skip
            | (go_big_quiet_want
               first
               | (go_big_quiet_op
                  go_big_quiet_on)))
          refine wpQuiet_nil ?_
          clear hCp
          refine doneR (by kernel_rfl) fun y9 hy => ?_
          have HX : Hid (∃ T M K N, PI w y9 g T M a K N ∧ M.length ≤ i + 1) := ⟨T', M', _, N', HP5.out.1.below hy, HP5.out.2⟩
          clear hy CG CE C0 F1 F2 HP5 HM
          go_wp2
          go_roundw
          case rel =>
            obtain ⟨T', M', K', N', hp, hl⟩ := HX.out
            exact ⟨i + 1, g, T', M', a, K', N', by omega, by omega, rfl, rfl, by go_num, hp, hl⟩
          case measure => simp [intOf]; omega
      case neg =>
        have hex : (¬ (i : Int) < (l.length : Int)) ∨ ((i : Int) < (l.length : Int) ∧ ¬ (i : Int) < 400) := by omega
        have HP : Hid (PI w wr g T M a K N) := HR.out.1
        have hm : M.length < 50000 := by have := HR.out.2; omega
        have KU := ranges_up wr g T M a K N ⟨#[]⟩ ⟨#[]⟩ (-1) HP.out.ts HP.out.ro (fun x hx => by have := apart HP.out.ts HP.out.ro x hx; simpa using this) (by decide) (by decide) HP.out.sz hm
        clear HR hlt HS HZ
        rcases hex with hl1' | ⟨hl1', hl2'⟩
        all_goals
          go_wp2_with fail
          refine KU.mono ?_
          clear KU
          rintro e w4 ⟨rfl, H⟩
          have HP4 : Hid (PI w w4 g T M a K N) := HP.out.below H.out
          have KB := ranges_back w4 g T M a K N ⟨#[]⟩ ⟨#[]⟩ (-1) HP4.out.ts HP4.out.ro (fun x hx => by have := apart HP4.out.ts HP4.out.ro x hx; simpa using this) (by decide) (by decide) HP4.out.sz hm
          clear H HP hm
          go_wp2_with fail
          refine KB.mono ?_
          clear KB
          rintro e w5 ⟨rfl, H⟩
          have HB5 : Hid (Below w.heap.size w w5) := HP4.out.bl.trans (H.out.mono HP4.out.bl.size)
          have KN := known_any w5
          clear H HP4
          go_wp2_with fail
          refine KN.mono ?_
          clear KN
          rintro e w6 ⟨rfl, H⟩
          have HF : Hid (Below w.heap.size w w6) := HB5.out.trans (H.out.mono HB5.out.size)
          clear H HB5
          go_wp2
          go_ret
          exact ⟨rfl, HF.out⟩
#print axioms plays_walk
end Go.Proofs.Yteokjfpppmnebaa
