/-
  TreeSplits.
-/
import Derived.Test.YteokjfpppmnebaaIr
namespace Go.Proofs.Yteokjfpppmnebaa
open Go.RowKit Go.Shelf
set_option linter.unusedVariables false
set_option linter.unusedSimpArgs false
attribute [local go_sem] Oper.semAt_some
attribute [local go_sem] bo_geq bo_leq
/-! ### quiet operations -/
section
variable {C : World → Prop} {a : Act} {o : Oper} {K : Act → Prop}
theorem q_slw (x : Operand) (ho : o.op = .load 28 x) (b k : Nat) (hx : a.eval x = .pointer (some ⟨b, k, none⟩)) (y : Option Addr) (n c : Nat) (hS : ∀ w, C w → w.cell? ⟨b, k, none⟩ = some (.slice y n c)) (hk : K (a.put o.dst (.slice y n c))) : o.quiet Try.prog a C K :=
  ⟨_, fun w hw => by
    have h := hS w hw
    unfold Oper.quietAt execOp
    simp only [ho, hx]
    go_simp, hk⟩
theorem q_ixw (x y : Operand) (ho : o.op = .indexAddr 28 x y) (g n c k : Nat) (hx : a.eval x = .slice (some ⟨g, 0, none⟩) n c) (hy : a.eval y = .int .i64 (k : Int)) (hk1 : k < n) (hk : K (a.put o.dst (.pointer (some ⟨g, k, none⟩)))) : o.quiet Try.prog a C K :=
  ⟨_, fun w hw => by
    unfold Oper.quietAt execOp
    have h1 : ¬ ((k : Int) < 0) := by omega
    have h2 : ¬ ((n : Int) ≤ (k : Int)) := by omega
    have h3 : (k : Int) < (n : Int) := by omega
    simp only [ho, hx, hy]
    go_simp, hk⟩
theorem q_nes (x y : Operand) (ho : o.op = .binOp .neq 9 x y 9) (s : ByteArray) (hx : a.eval x = .string s) (hy : a.eval y = .string s) (hk : K (a.put o.dst (.bool false))) : o.quiet Try.prog a C K :=
  ⟨_, fun w hw => by
    unfold Oper.quietAt execOp
    simp only [ho, hx, hy]
    go_simp, hk⟩
theorem q_len (x : Operand) (ho : o.op = .call { callee := .builtin .len, args := #[x], argTypes := #[28] }) (ad : Option Addr) (n c : Nat) (hx : a.eval x = .slice ad n c) (hk : K (a.put o.dst (.int .i64 (n : Int)))) : o.quiet Try.prog a C K :=
  ⟨_, fun w hw => by
    unfold Oper.quietAt execOp
    simp only [ho, resolve, invoke, builtin, Sem.run_bind, Sem.run_pure, Result.andThen_ok, List.map_toArray, List.map_cons, List.map_nil, hx]
    go_simp, hk⟩
theorem q_subn (x y : Operand) (ho : o.op = .binOp .sub 3 x y 3) (p q : Nat) (hx : a.eval x = .int .i64 (p : Int)) (hy : a.eval y = .int .i64 (q : Int)) (hp : p < 1000000000) (hq : q ≤ p) (hk : K (a.put o.dst (.int .i64 ((p - q : Nat) : Int)))) : o.quiet Try.prog a C K :=
  ⟨_, fun w hw => by
    unfold Oper.quietAt execOp
    have h1 : wrap64 ((p : Int) - (q : Int)) = ((p - q : Nat) : Int) := wrap_small (by omega) (by omega)
    simp only [ho, hx, hy]
    go_simp
    rw [IntKind.wrap_i64]; omega, hk⟩
end
set_option maxRecDepth 100000 in
set_option maxHeartbeats 2000000 in
theorem splits_walk (a0 : Option Addr) (cap : Nat) (l : List Stp) (a m z : ByteArray) (ha : a.size ≤ 140737488355328 ∧ m.size ≤ 140737488355328 ∧ z.size ≤ 140737488355328) (w : World) (hs : Scr w a0 l) (hz : ∀ s ∈ l, s.key.size ≤ 140737488355328 ∧ s.to.size ≤ 140737488355328) :
    Calls Try.prog 7 #[.slice a0 l.length cap, .string a, .string m, .string z] w fun e w' => e = .returned (.bool true) ∧ Hid (Below w.heap.size w w') := by
  have HS : Hid (Scr w a0 l) := hs
  have HZ : Hid (∀ s ∈ l, s.key.size ≤ 140737488355328 ∧ s.to.size ≤ 140737488355328) := hz
  have K := heavy_any a0 cap l w hs hz
  have HAZ : Hid (a.size ≤ 281474976710656 ∧ m.size ≤ 281474976710656 ∧ z.size ≤ 281474976710656) := by obtain ⟨q1, q2, q3⟩ := ha; exact ⟨by omega, by omega, by omega⟩
  obtain ⟨ha1, ha2, ha3⟩ := ha
  clear hs hz
  refine (callsIn_wide (n := 3)).1 ?_
  refine callsIn_of_wp_marks Try.func7 rfl trivial ?_ rfl
  simp only [Try.ntmps7, List.size_toArray, List.length_cons, List.length_nil, Nat.reduceAdd, Nat.reduceSub, Array.replicate_succ, Array.replicate_zero, List.push_toArray, List.append_toArray, List.nil_append, List.cons_append]
  refine wpIn_wide.2 ?_
  go_wp2_with fail
  refine K.mono ?_
  clear K
  rintro e w1 ⟨⟨t, rfl⟩, H⟩
  have HB1 : Hid (Below w.heap.size w w1) := H.out
  clear H
  have K := known_any w1
  have hcase : t = true ∨ (t = false ∧ decide (1000 < (a.size : Int) + (m.size : Int) + (z.size : Int)) = true) ∨ (t = false ∧ decide (1000 < (a.size : Int) + (m.size : Int) + (z.size : Int)) = false ∧ Op.bytesLess m.toList a.toList = true)
      ∨ (t = false ∧ decide (1000 < (a.size : Int) + (m.size : Int) + (z.size : Int)) = false ∧ Op.bytesLess m.toList a.toList = false ∧ z.toList.isEmpty = false ∧ Op.bytesLess z.toList m.toList = true)
      ∨ (t = false ∧ decide (1000 < (a.size : Int) + (m.size : Int) + (z.size : Int)) = false ∧ Op.bytesLess m.toList a.toList = false ∧ z.toList.isEmpty = false ∧ Op.bytesLess z.toList m.toList = false ∧ m.toList.isEmpty = true)
      ∨ (t = false ∧ decide (1000 < (a.size : Int) + (m.size : Int) + (z.size : Int)) = false ∧ Op.bytesLess m.toList a.toList = false ∧ z.toList.isEmpty = true ∧ m.toList.isEmpty = true)
      ∨ (t = false ∧ decide (1000 < (a.size : Int) + (m.size : Int) + (z.size : Int)) = false ∧ Op.bytesLess m.toList a.toList = false ∧ z.toList.isEmpty = false ∧ Op.bytesLess z.toList m.toList = false ∧ m.toList.isEmpty = false)
      ∨ (t = false ∧ decide (1000 < (a.size : Int) + (m.size : Int) + (z.size : Int)) = false ∧ Op.bytesLess m.toList a.toList = false ∧ z.toList.isEmpty = true ∧ m.toList.isEmpty = false) := by
    cases t <;> cases decide (1000 < (a.size : Int) + (m.size : Int) + (z.size : Int)) <;> cases Op.bytesLess m.toList a.toList <;> cases z.toList.isEmpty <;> cases Op.bytesLess z.toList m.toList <;> cases m.toList.isEmpty <;> simp
  rcases hcase with rfl | ⟨rfl, h1⟩ | ⟨rfl, h1, h2⟩ | ⟨rfl, h1, h2, h3, h4⟩ | ⟨rfl, h1, h2, h3, h4, h5⟩ | ⟨rfl, h1, h2, h3, h5⟩ | ⟨rfl, h1, h2, h3, h4, h5⟩ | ⟨rfl, h1, h2, h3, h5⟩
  iterate 6
    focus
      go_wp2_with fail
      refine K.mono ?_
      clear K
      rintro e w2 ⟨rfl, H⟩
      have HF : Hid (Below w.heap.size w w2) := HB1.out.trans (H.out.mono HB1.out.size)
      clear H HB1
      go_wp2
      exact ⟨_, results_tmp rfl _ _ _, rfl, HF.out⟩
  all_goals
    have HRG : Hid (∀ M, Srt (ksL M) → rngL M a m ++ rngL M m z = rngL M a z) := fun M hM => rng_split h2 (by first | exact fun _ => h4 | exact fun h => absurd h (by simp [h3])) h5 hM
    clear K
    have K := new_any w1
    go_wp2_with fail
    refine K.mono ?_
    clear K
    rintro e w2 ⟨g, rfl, H⟩
    have HO : Hid (QI w w2 g none []) := ⟨⟨H.out.1, rfl, List.Pairwise.nil⟩, by simp [fpO], by have := H.out.2.1; have := HB1.out.size; omega, HB1.out.grown H.out.2.2 HB1.out.size (by simp)⟩
    clear H HB1 h1 h2 h3 h5
    try clear h4
    go_wp2_with fail
    go_loopw [10] (fun iv wr => ∃ (k : Nat) (T : Option (Nat × B)) (M : List E), k ≤ l.length ∧ k ≤ 400 ∧ iv = .int .i64 (k : Int) ∧ Hid (QI w wr g T M ∧ M.length ≤ k ∧ ∀ e ∈ M, e.1.size ≤ 281474976710656)) (fun iv _ => 400 - (intOf iv).toNat)
    case atStart => exact ⟨0, none, [], by omega, by omega, rfl, HO.out, by simp, by simp⟩
    case round =>
      obtain ⟨k, T, M, hk, hk4, rfl, HR⟩ := hrel
      clear HO
      by_cases hlt : k < l.length ∧ k < 400
      case pos =>
        obtain ⟨hl1, hl2⟩ := hlt
        have hl1' : (k : Int) < (l.length : Int) := by omega
        have hl2' : (k : Int) < 400 := by omega
        obtain ⟨s, hsk⟩ : ∃ s, l[k]? = some s := ⟨_, List.getElem?_eq_getElem hl1⟩
        obtain ⟨b, off, rfl, hr⟩ := (HS.out.below HR.out.1.bl).at hsk
        obtain ⟨z1, z2⟩ := HZ.out s (List.mem_of_getElem? hsk)
        have q2 : wr.cell? ⟨b, off + k * 4 + 2, none⟩ = some (.string s.key) := hr 2 _ rfl
        have hx1 : ¬ ((k : Int) < 0) := by omega
        have hx2 : ¬ ((l.length : Int) ≤ (k : Int)) := by omega
        obtain ⟨old, is, hG⟩ := getL_ex HR.out.1.ts.srt s.key
        have K := put_M wr g T M s.key (by omega) (k : Int) old is hG HR.out.1.ts (by have := HR.out.2.1; omega)
        have HG : Hid (GetL M s.key old is) := hG
        clear hG hr hsk
        go_wp2_with fail
        refine K.mono ?_
        clear K
        rintro e w3 ⟨rfl, H⟩
        have HE : Hid (∃ T' M', QI w w3 g T' M' ∧ M'.length ≤ k + 1 ∧ ∀ e ∈ M', e.1.size ≤ 281474976710656) := by
          obtain ⟨T', q1, q2, q3⟩ := H.out
          refine ⟨T', _, HR.out.1.step q1 q2 q3, ?_, fun e he => ?_⟩
          · have := putL_len HG.out (k : Int)
            have := HR.out.2.1
            omega
          · rcases (putL_mem HG.out _ e.1).1 (List.mem_map.2 ⟨e, he, rfl⟩) with h | h
            · rw [h]; omega
            · obtain ⟨e', he', ee⟩ := List.mem_map.1 h
              rw [← ee]
              exact HR.out.2.2 e' he'
        clear H HR HG q2 hx1 hx2
        go_wp2
        obtain ⟨T', M', hE⟩ := HE.out
        go_roundw
        case rel => exact ⟨k + 1, T', M', by omega, by omega, by go_num, hE⟩
        case measure => simp [intOf]; omega
      case neg =>
        have hex : (¬ (k : Int) < (l.length : Int)) ∨ ((k : Int) < (l.length : Int) ∧ ¬ (k : Int) < 400) := by omega
        have HM0 : Hid (QI w wr g T M ∧ ∀ e ∈ M, e.1.size ≤ 281474976710656) := ⟨HR.out.1, HR.out.2.2⟩
        have hml : M.length ≤ 400 := by have := HR.out.2.1; omega
        clear HR hlt HS HZ
        rcases hex with hl1' | ⟨hl1', hl2'⟩
        all_goals
          go_wp2_with (refine al_zero rfl 28 rfl [.slice none 0 0] (by kernel_rfl) ?_)
          intro b11 w3 l3 B3 G3
          go_wp2_with (refine al_zero rfl 28 rfl [.slice none 0 0] (by kernel_rfl) ?_)
          intro b12 w4 l4 B4 G4
          go_wp2_with (refine al_zero rfl 28 rfl [.slice none 0 0] (by kernel_rfl) ?_)
          intro b13 w5 l5 B5 G5
          have n1 : b11 ≠ b12 := by have := B3.lt; omega
          have n2 : b11 ≠ b13 := by have := B3.lt; have := G4.size; omega
          have n3 : b12 ≠ b13 := by have := B4.lt; omega
          have HB5 : Hid (Below wr.heap.size wr w5) := (((Below.refl wr.heap.size wr).grown G3 (Nat.le_refl _) (by simp)).grown G4 G3.size (by simp)).grown G5 (Nat.le_trans G3.size G4.size) (by simp)
          have HL5 : wr.heap.size ≤ b11 ∧ wr.heap.size ≤ b12 ∧ wr.heap.size ≤ b13 := ⟨l3, Nat.le_trans G3.size l4, Nat.le_trans (Nat.le_trans G3.size G4.size) l5⟩
          have HS1 : Hid (S3 w w5 g T M [(b11, .slice none 0 0, []), (b12, .slice none 0 0, []), (b13, .slice none 0 0, [])] []) := by
            have hq := HM0.out.1.below HB5.out
            have h1 := HM0.out.1.ts.glt
            have h2 := HM0.out.1.ts.flt
            have h3 := HM0.out.1.bl.size
            have hno : ∀ b, wr.heap.size ≤ b → w.heap.size ≤ b ∧ b ≠ g ∧ b ∉ fpO T := fun b hb => ⟨by omega, by omega, fun c => by have := h2 b c; omega⟩
            refine ⟨hq, fun p hp => ?_, ?_, by simp, List.nodup_nil⟩
            · simp only [List.mem_cons, List.not_mem_nil, or_false] at hp
              rcases hp with rfl | rfl | rfl
              · exact ⟨⟨(B3.kept G4 (by simp)).kept G5 (by simp), World.ownsRow_nil _ _ _ _⟩, hno _ HL5.1, fun k hk => by simp [Value.ownBlock] at hk⟩
              · exact ⟨⟨B4.kept G5 (by simp), World.ownsRow_nil _ _ _ _⟩, hno _ HL5.2.1, fun k hk => by simp [Value.ownBlock] at hk⟩
              · exact ⟨⟨B5, World.ownsRow_nil _ _ _ _⟩, hno _ HL5.2.2, fun k hk => by simp [Value.ownBlock] at hk⟩
            · simp [Apart, n1, n2, n3, Value.ownBlock]
          have HSM : Hid (∀ e ∈ M, e.1.size ≤ 281474976710656) := HM0.out.2
          clear B3 B4 B5 G3 G4 G5 l3 l4 l5 HM0 HB5 HL5 n1 n2 n3
          have K := range_any (some ⟨g, 0, none⟩) a z HAZ.out.1 HAZ.out.2.2 w5
          go_wp2_with fail
          refine K.mono ?_
          clear K
          rintro e y1 ⟨c13, c14, c15, rfl, H6⟩
          obtain ⟨hc6, hb6, l3, l4, l5⟩ := H6.out
          have HT1 : Hid (S3 w y1 g T M ((b11, .slice none 0 0, []) :: [(b12, .slice none 0 0, []), (b13, .slice none 0 0, [])]) []) := HS1.out.below hb6
          have HE1 : Hid (Ent w w5 y1 g T c13 c14 c15 b11 [] [(b12, .slice none 0 0, []), (b13, .slice none 0 0, [])] []) := S3.enter HS1.out hb6 ⟨l3, hc6.t.lt⟩ ⟨l4, hc6.x.lt⟩ ⟨l5, hc6.y.lt⟩
          obtain ⟨r, hr, hgv⟩ := range_S y1 g T M HT1.out.q.ts HSM.out c13 c14 c15 a z hc6 (NN g T c13 c14 c15) (fun x hx => .inl hx) (.inr (.inl rfl)) (.inr (.inr (.inl rfl))) (.inr (.inr (.inr (.inl rfl)))) (.inr (.inr (.inr (.inr rfl))))
          obtain ⟨hr1, hr2, hr3, hr4⟩ := HE1.out.rN r hr
          obtain ⟨X1, hX⟩ : ∃ X, rngL M a z = X := ⟨_, rfl⟩
          rw [hX] at hgv
          have HX1 : Hid (rngL M a z = X1) := hX
          have HL1 : Hid (X1.length ≤ 400) := by
            rw [← hX]
            skip
            exact Nat.le_trans (List.length_filter_le _ _) hml
          clear H6 hX hb6 hc6 l3 l4 l5 HS1
          go_wp2_with fail
          refine (wpIn_wide (n := 3)).1 ?_
          refine range_law (gf := 34) (lb := #[.pointer (some ⟨c13, 0, none⟩), .pointer (some ⟨c14, 0, none⟩), .pointer (some ⟨c15, 0, none⟩)]) rfl (enters Try.func34 (by kernel_rfl) rfl) hgv hr1 HE1.out.hN (Kp.refl _ _) rfl
            (fun hi pre W => y1.heap.size + 2 ≤ hi ∧ RowI (NN g T c13 c14 c15) (AA w [(b12, .slice none 0 0, []), (b13, .slice none 0 0, [])] []) y1.heap.size b11 [] y1 hi pre W) (fun _ _ _ _ => False)
            (fun hi s X Y row q gg hq => ⟨q.1, RowI.own hr1 hr2 hr3 HE1.out.hA hr4 (by have := q.1; omega) s X Y row q.2 gg hq⟩) (fun _ _ _ _ _ _ q _ _ => q) (fun hi hh => ⟨hh, HE1.out.r0 hi⟩) ?round ?done ?stop
          case stop => exact fun _ _ _ _ _ _ _ h => h.elim
          case round =>
            intro hh kk ll pre x W hx
            have hpl : pre.length + 1 ≤ X1.length := by
              obtain ⟨post, e⟩ := hx
              rw [e]
              simp
            have hpl2 : ([] ++ txs pre).length + 1 ≤ 100000 := by
              have := HL1.out
              rw [List.length_append, txs_len]
              simp; omega
            clear hgv hr hr1 hr2 hr3 hr4 HT1 hx hpl HX1 HL1
            gi_wp2_with fail
            refine ⟨(by first | rfl | trivial), fun W2 hsz hI => ?_⟩
            obtain ⟨hB2, v2, p1, p2, p3, p4, p5⟩ := hI
            have HP : Hid ((y1.heap.size + 2 ≤ hh ∧ hh ≤ W2.heap.size) ∧ Blk W2 b11 28 [v2] ∧ W2.ownsRow 0 9 1 v2 ([] ++ txs pre).length ([] ++ txs pre) ∧ (∀ k, v2.ownBlock = some k → (k < y1.heap.size ∧ ¬ (NN g T c13 c14 c15) k ∧ ¬ (AA w [(b12, .slice none 0 0, []), (b13, .slice none 0 0, [])] []) k) ∨ hh ≤ k) ∧ Kp (AA w [(b12, .slice none 0 0, []), (b13, .slice none 0 0, [])] []) y1 W2) := ⟨⟨hB2, hsz⟩, p1, p2, p3, p5⟩
            have q1 : W2.cell? ⟨b11, 0, none⟩ = some v2 := p1.cell 0
            obtain ⟨hcel, hone⟩ : v2.cells = #[v2] ∧ v2.oneCell' = true := by
              rcases p4 with h | ⟨_, _, h⟩ <;> rw [h] <;> exact ⟨rfl, rfl⟩
            clear p1 p3 p4 p5 hB2 hsz
            gi_wp2_with (refine app_in _ rfl (.tmp 78) (.tmp 80) rfl v2 ([] ++ txs pre).length ([] ++ txs pre) rfl (p2.alloc _) ⟨W2.heap.size, 0, none⟩ x.1 rfl (cell_one_new _ _ _ 0 _ rfl) hpl2 ?_)
            intro v' w3 o3 g3 a3
            have G23 := World.grownBy_alloc W2 (.cells #[.string x.1] 9) none
            have B3 := app_blk p2 HP.out.2.1 G23 g3
            have HQ : Hid (Word (NN g T c13 c14 c15) y1.heap.size hh W2 (w3.setCell ⟨b11, 0, none⟩ v') ∧ RowI (NN g T c13 c14 c15) (AA w [(b12, .slice none 0 0, []), (b13, .slice none 0 0, [])] []) y1.heap.size b11 [] y1 hh (pre ++ [x]) (w3.setCell ⟨b11, 0, none⟩ v')) := by
              obtain ⟨⟨q1, q2⟩, q3, q4, q5, q6⟩ := HP.out
              have hE := HE1.out
              exact app_step hE.hN hE.hA hE.hb hE.hbN hE.hbA (by omega) q2 q4 q3 q5 q6 G23 (by simpa using o3) g3 (by simpa using a3)
            have HB2 : Hid (y1.heap.size + 2 ≤ hh) := HP.out.1.1
            obtain ⟨gg, cc, rfl⟩ := own_succ o3
            have q1 : w3.cell? ⟨b11, 0, none⟩ = some v2 := B3.cell 0
            have f1 : w3.frozen? ⟨b11, 0, none⟩ = false := B3.frozen 0
            clear HP o3 g3 a3 G23 B3 p2
            gi_wp2_with fail
            exact ⟨HQ.out.1, HB2.out, HQ.out.2⟩
          case done =>
            intro D1 hh W hD hI hk hdf
            obtain ⟨hB2, hI⟩ := hI
            obtain ⟨v1, hS⟩ := S3.leave HT1.out HE1.out hI (by omega) hk hD hdf
            have HS2 : Hid (S3 w W g T M ((b11, v1, [] ++ txs X1) :: [(b12, .slice none 0 0, []), (b13, .slice none 0 0, [])]) (D1 :: [])) := hS
            clear hI hk hdf hS hB2 hD HT1 HE1 hgv hr hr1 hr2 hr3 hr4
            dsimp only [Exit.inBlock, Exit.then]
            have HU2 : Hid (S3 w W g T M ((b12, .slice none 0 0, []) :: [(b11, v1, [] ++ txs X1), (b13, .slice none 0 0, [])]) [D1]) := HS2.out.perm (List.Perm.swap _ _ _)
            clear HS2
            have K := range_any (some ⟨g, 0, none⟩) a m HAZ.out.1 HAZ.out.2.1 W
            go_wp2_with fail
            refine K.mono ?_
            clear K
            rintro e y2 ⟨c23, c24, c25, rfl, H6⟩
            obtain ⟨hc6, hb6, l3, l4, l5⟩ := H6.out
            have HT2 : Hid (S3 w y2 g T M ((b12, .slice none 0 0, []) :: [(b11, v1, [] ++ txs X1), (b13, .slice none 0 0, [])]) [D1]) := HU2.out.below hb6
            have HE2 : Hid (Ent w W y2 g T c23 c24 c25 b12 [] [(b11, v1, [] ++ txs X1), (b13, .slice none 0 0, [])] [D1]) := S3.enter HU2.out hb6 ⟨l3, hc6.t.lt⟩ ⟨l4, hc6.x.lt⟩ ⟨l5, hc6.y.lt⟩
            obtain ⟨r, hr, hgv⟩ := range_S y2 g T M HT2.out.q.ts HSM.out c23 c24 c25 a m hc6 (NN g T c23 c24 c25) (fun x hx => .inl hx) (.inr (.inl rfl)) (.inr (.inr (.inl rfl))) (.inr (.inr (.inr (.inl rfl)))) (.inr (.inr (.inr (.inr rfl))))
            obtain ⟨hr1, hr2, hr3, hr4⟩ := HE2.out.rN r hr
            obtain ⟨X2, hX⟩ : ∃ X, rngL M a m = X := ⟨_, rfl⟩
            rw [hX] at hgv
            have HX2 : Hid (rngL M a m = X2) := hX
            have HL2 : Hid (X2.length ≤ 400) := by
              rw [← hX]
              skip
              exact Nat.le_trans (List.length_filter_le _ _) hml
            clear H6 hX hb6 hc6 l3 l4 l5 HU2
            go_wp2_with fail
            refine (wpIn_wide (n := 3)).1 ?_
            refine range_law (gf := 34) (lb := #[.pointer (some ⟨c23, 0, none⟩), .pointer (some ⟨c24, 0, none⟩), .pointer (some ⟨c25, 0, none⟩)]) rfl (enters Try.func34 (by kernel_rfl) rfl) hgv hr1 HE2.out.hN (Kp.refl _ _) rfl
              (fun hi pre W => y2.heap.size + 2 ≤ hi ∧ RowI (NN g T c23 c24 c25) (AA w [(b11, v1, [] ++ txs X1), (b13, .slice none 0 0, [])] [D1]) y2.heap.size b12 [] y2 hi pre W) (fun _ _ _ _ => False)
              (fun hi s X Y row q gg hq => ⟨q.1, RowI.own hr1 hr2 hr3 HE2.out.hA hr4 (by have := q.1; omega) s X Y row q.2 gg hq⟩) (fun _ _ _ _ _ _ q _ _ => q) (fun hi hh => ⟨hh, HE2.out.r0 hi⟩) ?round ?done ?stop
            case stop => exact fun _ _ _ _ _ _ _ h => h.elim
            case round =>
              intro hh kk ll pre x W hx
              have hpl : pre.length + 1 ≤ X2.length := by
                obtain ⟨post, e⟩ := hx
                rw [e]
                simp
              have hpl2 : ([] ++ txs pre).length + 1 ≤ 100000 := by
                have := HL2.out
                rw [List.length_append, txs_len]
                simp; omega
              clear hgv hr hr1 hr2 hr3 hr4 HT2 hx hpl HX2 HL2
              gi_wp2_with fail
              refine ⟨(by first | rfl | trivial), fun W2 hsz hI => ?_⟩
              obtain ⟨hB2, v2, p1, p2, p3, p4, p5⟩ := hI
              have HP : Hid ((y2.heap.size + 2 ≤ hh ∧ hh ≤ W2.heap.size) ∧ Blk W2 b12 28 [v2] ∧ W2.ownsRow 0 9 1 v2 ([] ++ txs pre).length ([] ++ txs pre) ∧ (∀ k, v2.ownBlock = some k → (k < y2.heap.size ∧ ¬ (NN g T c23 c24 c25) k ∧ ¬ (AA w [(b11, v1, [] ++ txs X1), (b13, .slice none 0 0, [])] [D1]) k) ∨ hh ≤ k) ∧ Kp (AA w [(b11, v1, [] ++ txs X1), (b13, .slice none 0 0, [])] [D1]) y2 W2) := ⟨⟨hB2, hsz⟩, p1, p2, p3, p5⟩
              have q1 : W2.cell? ⟨b12, 0, none⟩ = some v2 := p1.cell 0
              obtain ⟨hcel, hone⟩ : v2.cells = #[v2] ∧ v2.oneCell' = true := by
                rcases p4 with h | ⟨_, _, h⟩ <;> rw [h] <;> exact ⟨rfl, rfl⟩
              clear p1 p3 p4 p5 hB2 hsz
              gi_wp2_with (refine app_in _ rfl (.tmp 88) (.tmp 90) rfl v2 ([] ++ txs pre).length ([] ++ txs pre) rfl (p2.alloc _) ⟨W2.heap.size, 0, none⟩ x.1 rfl (cell_one_new _ _ _ 0 _ rfl) hpl2 ?_)
              intro v' w3 o3 g3 a3
              have G23 := World.grownBy_alloc W2 (.cells #[.string x.1] 9) none
              have B3 := app_blk p2 HP.out.2.1 G23 g3
              have HQ : Hid (Word (NN g T c23 c24 c25) y2.heap.size hh W2 (w3.setCell ⟨b12, 0, none⟩ v') ∧ RowI (NN g T c23 c24 c25) (AA w [(b11, v1, [] ++ txs X1), (b13, .slice none 0 0, [])] [D1]) y2.heap.size b12 [] y2 hh (pre ++ [x]) (w3.setCell ⟨b12, 0, none⟩ v')) := by
                obtain ⟨⟨q1, q2⟩, q3, q4, q5, q6⟩ := HP.out
                have hE := HE2.out
                exact app_step hE.hN hE.hA hE.hb hE.hbN hE.hbA (by omega) q2 q4 q3 q5 q6 G23 (by simpa using o3) g3 (by simpa using a3)
              have HB2 : Hid (y2.heap.size + 2 ≤ hh) := HP.out.1.1
              obtain ⟨gg, cc, rfl⟩ := own_succ o3
              have q1 : w3.cell? ⟨b12, 0, none⟩ = some v2 := B3.cell 0
              have f1 : w3.frozen? ⟨b12, 0, none⟩ = false := B3.frozen 0
              clear HP o3 g3 a3 G23 B3 p2
              gi_wp2_with fail
              exact ⟨HQ.out.1, HB2.out, HQ.out.2⟩
            case done =>
              intro D2 hh W hD hI hk hdf
              obtain ⟨hB2, hI⟩ := hI
              obtain ⟨v2, hS⟩ := S3.leave HT2.out HE2.out hI (by omega) hk hD hdf
              have HS3 : Hid (S3 w W g T M ((b12, v2, [] ++ txs X2) :: [(b11, v1, [] ++ txs X1), (b13, .slice none 0 0, [])]) (D2 :: [D1])) := hS
              clear hI hk hdf hS hB2 hD HT2 HE2 hgv hr hr1 hr2 hr3 hr4
              dsimp only [Exit.inBlock, Exit.then]
              have K := range_any (some ⟨g, 0, none⟩) m z HAZ.out.2.1 HAZ.out.2.2 W
              go_wp2_with fail
              refine K.mono ?_
              clear K
              rintro e y3 ⟨c33, c34, c35, rfl, H6⟩
              obtain ⟨hc6, hb6, l3, l4, l5⟩ := H6.out
              have HT3 : Hid (S3 w y3 g T M ((b12, v2, ([] ++ txs X2)) :: [(b11, v1, [] ++ txs X1), (b13, .slice none 0 0, [])]) [D2, D1]) := HS3.out.below hb6
              have HE3 : Hid (Ent w W y3 g T c33 c34 c35 b12 ([] ++ txs X2) [(b11, v1, [] ++ txs X1), (b13, .slice none 0 0, [])] [D2, D1]) := S3.enter HS3.out hb6 ⟨l3, hc6.t.lt⟩ ⟨l4, hc6.x.lt⟩ ⟨l5, hc6.y.lt⟩
              obtain ⟨r, hr, hgv⟩ := range_S y3 g T M HT3.out.q.ts HSM.out c33 c34 c35 m z hc6 (NN g T c33 c34 c35) (fun x hx => .inl hx) (.inr (.inl rfl)) (.inr (.inr (.inl rfl))) (.inr (.inr (.inr (.inl rfl)))) (.inr (.inr (.inr (.inr rfl))))
              obtain ⟨hr1, hr2, hr3, hr4⟩ := HE3.out.rN r hr
              obtain ⟨X3, hX⟩ : ∃ X, rngL M m z = X := ⟨_, rfl⟩
              rw [hX] at hgv
              have HX3 : Hid (rngL M m z = X3) := hX
              have HL3 : Hid (X3.length ≤ 400) := by
                rw [← hX]
                skip
                exact Nat.le_trans (List.length_filter_le _ _) hml
              clear H6 hX hb6 hc6 l3 l4 l5 HS3
              go_wp2_with fail
              refine (wpIn_wide (n := 3)).1 ?_
              refine range_law (gf := 34) (lb := #[.pointer (some ⟨c33, 0, none⟩), .pointer (some ⟨c34, 0, none⟩), .pointer (some ⟨c35, 0, none⟩)]) rfl (enters Try.func34 (by kernel_rfl) rfl) hgv hr1 HE3.out.hN (Kp.refl _ _) rfl
                (fun hi pre W => y3.heap.size + 2 ≤ hi ∧ RowI (NN g T c33 c34 c35) (AA w [(b11, v1, [] ++ txs X1), (b13, .slice none 0 0, [])] [D2, D1]) y3.heap.size b12 ([] ++ txs X2) y3 hi pre W) (fun _ _ _ _ => False)
                (fun hi s X Y row q gg hq => ⟨q.1, RowI.own hr1 hr2 hr3 HE3.out.hA hr4 (by have := q.1; omega) s X Y row q.2 gg hq⟩) (fun _ _ _ _ _ _ q _ _ => q) (fun hi hh => ⟨hh, HE3.out.r0 hi⟩) ?round ?done ?stop
              case stop => exact fun _ _ _ _ _ _ _ h => h.elim
              case round =>
                intro hh kk ll pre x W hx
                have hpl : pre.length + 1 ≤ X3.length := by
                  obtain ⟨post, e⟩ := hx
                  rw [e]
                  simp
                have hpl2 : (([] ++ txs X2) ++ txs pre).length + 1 ≤ 100000 := by
                  have := HL3.out
                  rw [List.length_append, txs_len]
                  have := HL2.out; simp [txs_len]; omega
                clear hgv hr hr1 hr2 hr3 hr4 HT3 hx hpl HX3 HL3
                gi_wp2_with fail
                refine ⟨(by first | rfl | trivial), fun W2 hsz hI => ?_⟩
                obtain ⟨hB2, v2, p1, p2, p3, p4, p5⟩ := hI
                have HP : Hid ((y3.heap.size + 2 ≤ hh ∧ hh ≤ W2.heap.size) ∧ Blk W2 b12 28 [v2] ∧ W2.ownsRow 0 9 1 v2 (([] ++ txs X2) ++ txs pre).length (([] ++ txs X2) ++ txs pre) ∧ (∀ k, v2.ownBlock = some k → (k < y3.heap.size ∧ ¬ (NN g T c33 c34 c35) k ∧ ¬ (AA w [(b11, v1, [] ++ txs X1), (b13, .slice none 0 0, [])] [D2, D1]) k) ∨ hh ≤ k) ∧ Kp (AA w [(b11, v1, [] ++ txs X1), (b13, .slice none 0 0, [])] [D2, D1]) y3 W2) := ⟨⟨hB2, hsz⟩, p1, p2, p3, p5⟩
                have q1 : W2.cell? ⟨b12, 0, none⟩ = some v2 := p1.cell 0
                obtain ⟨hcel, hone⟩ : v2.cells = #[v2] ∧ v2.oneCell' = true := by
                  rcases p4 with h | ⟨_, _, h⟩ <;> rw [h] <;> exact ⟨rfl, rfl⟩
                clear p1 p3 p4 p5 hB2 hsz
                gi_wp2_with (refine app_in _ rfl (.tmp 98) (.tmp 100) rfl v2 (([] ++ txs X2) ++ txs pre).length (([] ++ txs X2) ++ txs pre) rfl (p2.alloc _) ⟨W2.heap.size, 0, none⟩ x.1 rfl (cell_one_new _ _ _ 0 _ rfl) hpl2 ?_)
                intro v' w3 o3 g3 a3
                have G23 := World.grownBy_alloc W2 (.cells #[.string x.1] 9) none
                have B3 := app_blk p2 HP.out.2.1 G23 g3
                have HQ : Hid (Word (NN g T c33 c34 c35) y3.heap.size hh W2 (w3.setCell ⟨b12, 0, none⟩ v') ∧ RowI (NN g T c33 c34 c35) (AA w [(b11, v1, [] ++ txs X1), (b13, .slice none 0 0, [])] [D2, D1]) y3.heap.size b12 ([] ++ txs X2) y3 hh (pre ++ [x]) (w3.setCell ⟨b12, 0, none⟩ v')) := by
                  obtain ⟨⟨q1, q2⟩, q3, q4, q5, q6⟩ := HP.out
                  have hE := HE3.out
                  exact app_step hE.hN hE.hA hE.hb hE.hbN hE.hbA (by omega) q2 q4 q3 q5 q6 G23 (by simpa using o3) g3 (by simpa using a3)
                have HB2 : Hid (y3.heap.size + 2 ≤ hh) := HP.out.1.1
                obtain ⟨gg, cc, rfl⟩ := own_succ o3
                have q1 : w3.cell? ⟨b12, 0, none⟩ = some v2 := B3.cell 0
                have f1 : w3.frozen? ⟨b12, 0, none⟩ = false := B3.frozen 0
                clear HP o3 g3 a3 G23 B3 p2
                gi_wp2_with fail
                exact ⟨HQ.out.1, HB2.out, HQ.out.2⟩
              case done =>
                intro D3 hh W hD hI hk hdf
                obtain ⟨hB2, hI⟩ := hI
                obtain ⟨v3, hS⟩ := S3.leave HT3.out HE3.out hI (by omega) hk hD hdf
                have HS4 : Hid (S3 w W g T M ((b12, v3, ([] ++ txs X2) ++ txs X3) :: [(b11, v1, [] ++ txs X1), (b13, .slice none 0 0, [])]) (D3 :: [D2, D1])) := hS
                clear hI hk hdf hS hB2 hD HT3 HE3 hgv hr hr1 hr2 hr3 hr4
                dsimp only [Exit.inBlock, Exit.then]
                have HU4 : Hid (S3 w W g T M ((b13, .slice none 0 0, []) :: [(b12, v3, ([] ++ txs X2) ++ txs X3), (b11, v1, [] ++ txs X1)]) [D3, D2, D1]) := HS4.out.perm ((List.Perm.swap _ _ _).trans ((List.Perm.cons _ (List.Perm.swap _ _ _))))
                clear HS4
                have K := back_any (some ⟨g, 0, none⟩) a z HAZ.out.1 HAZ.out.2.2 W
                go_wp2_with fail
                refine K.mono ?_
                clear K
                rintro e y4 ⟨c43, c44, c45, rfl, H6⟩
                obtain ⟨hc6, hb6, l3, l4, l5⟩ := H6.out
                have HT4 : Hid (S3 w y4 g T M ((b13, .slice none 0 0, []) :: [(b12, v3, ([] ++ txs X2) ++ txs X3), (b11, v1, [] ++ txs X1)]) [D3, D2, D1]) := HU4.out.below hb6
                have HE4 : Hid (Ent w W y4 g T c43 c44 c45 b13 [] [(b12, v3, ([] ++ txs X2) ++ txs X3), (b11, v1, [] ++ txs X1)] [D3, D2, D1]) := S3.enter HU4.out hb6 ⟨l3, hc6.t.lt⟩ ⟨l4, hc6.x.lt⟩ ⟨l5, hc6.y.lt⟩
                obtain ⟨r, hr, hgv⟩ := back_S y4 g T M HT4.out.q.ts HSM.out c43 c44 c45 a z hc6 (NN g T c43 c44 c45) (fun x hx => .inl hx) (.inr (.inl rfl)) (.inr (.inr (.inl rfl))) (.inr (.inr (.inr (.inl rfl)))) (.inr (.inr (.inr (.inr rfl))))
                obtain ⟨hr1, hr2, hr3, hr4⟩ := HE4.out.rN r hr
                obtain ⟨X4, hX⟩ : ∃ X, (rngL M a z).reverse = X := ⟨_, rfl⟩
                rw [hX] at hgv
                have HX4 : Hid ((rngL M a z).reverse = X4) := hX
                have HL4 : Hid (X4.length ≤ 400) := by
                  rw [← hX]
                  rw [List.length_reverse]
                  exact Nat.le_trans (List.length_filter_le _ _) hml
                clear H6 hX hb6 hc6 l3 l4 l5 HU4
                go_wp2_with fail
                refine (wpIn_wide (n := 3)).1 ?_
                refine range_law (gf := 38) (lb := #[.pointer (some ⟨c43, 0, none⟩), .pointer (some ⟨c44, 0, none⟩), .pointer (some ⟨c45, 0, none⟩)]) rfl (enters Try.func38 (by kernel_rfl) rfl) hgv hr1 HE4.out.hN (Kp.refl _ _) rfl
                  (fun hi pre W => y4.heap.size + 2 ≤ hi ∧ RowI (NN g T c43 c44 c45) (AA w [(b12, v3, ([] ++ txs X2) ++ txs X3), (b11, v1, [] ++ txs X1)] [D3, D2, D1]) y4.heap.size b13 [] y4 hi pre W) (fun _ _ _ _ => False)
                  (fun hi s X Y row q gg hq => ⟨q.1, RowI.own hr1 hr2 hr3 HE4.out.hA hr4 (by have := q.1; omega) s X Y row q.2 gg hq⟩) (fun _ _ _ _ _ _ q _ _ => q) (fun hi hh => ⟨hh, HE4.out.r0 hi⟩) ?round ?done ?stop
                case stop => exact fun _ _ _ _ _ _ _ h => h.elim
                case round =>
                  intro hh kk ll pre x W hx
                  have hpl : pre.length + 1 ≤ X4.length := by
                    obtain ⟨post, e⟩ := hx
                    rw [e]
                    simp
                  have hpl2 : ([] ++ txs pre).length + 1 ≤ 100000 := by
                    have := HL4.out
                    rw [List.length_append, txs_len]
                    simp; omega
                  clear hgv hr hr1 hr2 hr3 hr4 HT4 hx hpl HX4 HL4
                  gi_wp2_with fail
                  refine ⟨(by first | rfl | trivial), fun W2 hsz hI => ?_⟩
                  obtain ⟨hB2, v2, p1, p2, p3, p4, p5⟩ := hI
                  have HP : Hid ((y4.heap.size + 2 ≤ hh ∧ hh ≤ W2.heap.size) ∧ Blk W2 b13 28 [v2] ∧ W2.ownsRow 0 9 1 v2 ([] ++ txs pre).length ([] ++ txs pre) ∧ (∀ k, v2.ownBlock = some k → (k < y4.heap.size ∧ ¬ (NN g T c43 c44 c45) k ∧ ¬ (AA w [(b12, v3, ([] ++ txs X2) ++ txs X3), (b11, v1, [] ++ txs X1)] [D3, D2, D1]) k) ∨ hh ≤ k) ∧ Kp (AA w [(b12, v3, ([] ++ txs X2) ++ txs X3), (b11, v1, [] ++ txs X1)] [D3, D2, D1]) y4 W2) := ⟨⟨hB2, hsz⟩, p1, p2, p3, p5⟩
                  have q1 : W2.cell? ⟨b13, 0, none⟩ = some v2 := p1.cell 0
                  obtain ⟨hcel, hone⟩ : v2.cells = #[v2] ∧ v2.oneCell' = true := by
                    rcases p4 with h | ⟨_, _, h⟩ <;> rw [h] <;> exact ⟨rfl, rfl⟩
                  clear p1 p3 p4 p5 hB2 hsz
                  gi_wp2_with (refine app_in _ rfl (.tmp 108) (.tmp 110) rfl v2 ([] ++ txs pre).length ([] ++ txs pre) rfl (p2.alloc _) ⟨W2.heap.size, 0, none⟩ x.1 rfl (cell_one_new _ _ _ 0 _ rfl) hpl2 ?_)
                  intro v' w3 o3 g3 a3
                  have G23 := World.grownBy_alloc W2 (.cells #[.string x.1] 9) none
                  have B3 := app_blk p2 HP.out.2.1 G23 g3
                  have HQ : Hid (Word (NN g T c43 c44 c45) y4.heap.size hh W2 (w3.setCell ⟨b13, 0, none⟩ v') ∧ RowI (NN g T c43 c44 c45) (AA w [(b12, v3, ([] ++ txs X2) ++ txs X3), (b11, v1, [] ++ txs X1)] [D3, D2, D1]) y4.heap.size b13 [] y4 hh (pre ++ [x]) (w3.setCell ⟨b13, 0, none⟩ v')) := by
                    obtain ⟨⟨q1, q2⟩, q3, q4, q5, q6⟩ := HP.out
                    have hE := HE4.out
                    exact app_step hE.hN hE.hA hE.hb hE.hbN hE.hbA (by omega) q2 q4 q3 q5 q6 G23 (by simpa using o3) g3 (by simpa using a3)
                  have HB2 : Hid (y4.heap.size + 2 ≤ hh) := HP.out.1.1
                  obtain ⟨gg, cc, rfl⟩ := own_succ o3
                  have q1 : w3.cell? ⟨b13, 0, none⟩ = some v2 := B3.cell 0
                  have f1 : w3.frozen? ⟨b13, 0, none⟩ = false := B3.frozen 0
                  clear HP o3 g3 a3 G23 B3 p2
                  gi_wp2_with fail
                  exact ⟨HQ.out.1, HB2.out, HQ.out.2⟩
                case done =>
                  intro D4 hh W hD hI hk hdf
                  obtain ⟨hB2, hI⟩ := hI
                  obtain ⟨v4, hS⟩ := S3.leave HT4.out HE4.out hI (by omega) hk hD hdf
                  have HS5 : Hid (S3 w W g T M ((b13, v4, [] ++ txs X4) :: [(b12, v3, ([] ++ txs X2) ++ txs X3), (b11, v1, [] ++ txs X1)]) (D4 :: [D3, D2, D1])) := hS
                  clear hI hk hdf hS hB2 hD HT4 HE4 hgv hr hr1 hr2 hr3 hr4
                  dsimp only [Exit.inBlock, Exit.then]
                  have HXA : Hid (X2 ++ X3 = X1 ∧ X4 = X1.reverse) := by
                    have e1 := HX1.out
                    have e2 := HX2.out
                    have e3 := HX3.out
                    have e4 := HX4.out
                    refine ⟨?_, ?_⟩
                    · rw [← e2, ← e3, ← e1]; exact HRG.out M HS5.out.q.ts.srt
                    · rw [← e4, e1]
                  have HF : Hid (S3 w W g T M [(b13, v4, txs X1.reverse), (b12, v3, txs X1), (b11, v1, txs X1)] [D4, D3, D2, D1]) := by
                    have h := HS5.out
                    rw [List.nil_append, List.nil_append, List.nil_append, ← txs_app, HXA.out.1, HXA.out.2] at h
                    exact h
                  clear HS5 HXA HX1 HX2 HX3 HX4 HL2 HL3 HL4 HRG HSM HAZ
                  obtain ⟨n, hn⟩ : ∃ n, X1.length = n := ⟨_, rfl⟩
                  have hn4 : n ≤ 400 := by rw [← hn]; exact HL1.out
                  obtain ⟨a1, k1, a3, k3, a4, k4, hv1, hv3, hv4⟩ : ∃ a1 k1 a3 k3 a4 k4, v1 = .slice a1 n k1 ∧ v3 = .slice a3 n k3 ∧ v4 = .slice a4 n k4 := by
                    obtain ⟨x1, y1, e1, _⟩ := row_sl (HF.out.ok (b11, v1, txs X1) (by simp)).1.2
                    obtain ⟨x3, y3, e3, _⟩ := row_sl (HF.out.ok (b12, v3, txs X1) (by simp)).1.2
                    obtain ⟨x4, y4, e4, _⟩ := row_sl (HF.out.ok (b13, v4, txs X1.reverse) (by simp)).1.2
                    refine ⟨x1, y1, x3, y3, x4, y4, ?_, ?_, ?_⟩
                    · rw [← hn, ← txs_len X1]; exact e1
                    · rw [← hn, ← txs_len X1]; exact e3
                    · rw [← hn, ← List.length_reverse, ← txs_len X1.reverse]; exact e4
                  subst hv1 hv3 hv4
                  have q11 : W.cell? ⟨b11, 0, none⟩ = some (.slice a1 n k1) := (HF.out.ok (b11, .slice a1 n k1, txs X1) (by simp)).1.1.cell 0
                  have q12 : W.cell? ⟨b12, 0, none⟩ = some (.slice a3 n k3) := (HF.out.ok (b12, .slice a3 n k3, txs X1) (by simp)).1.1.cell 0
                  have q13 : W.cell? ⟨b13, 0, none⟩ = some (.slice a4 n k4) := (HF.out.ok (b13, .slice a4 n k4, txs X1.reverse) (by simp)).1.1.cell 0
                  have HN : Hid (X1.length = n) := hn
                  clear hn HL1
                  go_wp2_with fail
                  clear q11 q12 q13
                  go_loopw [18] (fun iv wr => ∃ i : Nat, i ≤ n ∧ iv = .int .i64 (i : Int) ∧ Hid (S3 w wr g T M [(b13, .slice a4 n k4, txs X1.reverse), (b12, .slice a3 n k3, txs X1), (b11, .slice a1 n k1, txs X1)] [D4, D3, D2, D1])) (fun iv _ => n - (intOf iv).toNat)
                  case atStart => exact ⟨0, Nat.zero_le _, rfl, HF.out⟩
                  case round =>
                    obtain ⟨i, hi, rfl, HR⟩ := hrel
                    clear HF
                    have q11 : wr.cell? ⟨b11, 0, none⟩ = some (.slice a1 n k1) := (HR.out.ok (b11, .slice a1 n k1, txs X1) (by simp)).1.1.cell 0
                    have q12 : wr.cell? ⟨b12, 0, none⟩ = some (.slice a3 n k3) := (HR.out.ok (b12, .slice a3 n k3, txs X1) (by simp)).1.1.cell 0
                    have q13 : wr.cell? ⟨b13, 0, none⟩ = some (.slice a4 n k4) := (HR.out.ok (b13, .slice a4 n k4, txs X1.reverse) (by simp)).1.1.cell 0
                    by_cases hin : i < n
                    · have hin' : (i : Int) < (n : Int) := by omega
                      obtain ⟨j, hj⟩ : ∃ j : Nat, n - 1 - i = j := ⟨_, rfl⟩
                      have hjn : j < n := by omega
                      obtain ⟨x, hx⟩ : ∃ x, X1[i]? = some x := ⟨_, List.getElem?_eq_getElem (by rw [HN.out]; exact hin)⟩
                      obtain ⟨_, _, e1, z1⟩ := row_sl (HR.out.ok (b11, .slice a1 n k1, txs X1) (by simp)).1.2
                      obtain ⟨_, _, e3, z3⟩ := row_sl (HR.out.ok (b12, .slice a3 n k3, txs X1) (by simp)).1.2
                      obtain ⟨_, _, e4, z4⟩ := row_sl (HR.out.ok (b13, .slice a4 n k4, txs X1.reverse) (by simp)).1.2
                      have hl1 : 0 < (txs X1).length := by rw [txs_len, HN.out]; omega
                      have hl4 : 0 < (txs X1.reverse).length := by rw [txs_len, List.length_reverse, HN.out]; omega
                      obtain ⟨g1, h1, t1⟩ := z1 hl1
                      obtain ⟨g3, h3, t3⟩ := z3 hl1
                      obtain ⟨g4, h4, t4⟩ := z4 hl4
                      have ea1 : a1 = some ⟨g1, 0, none⟩ := (Value.slice.inj e1).1.trans h1
                      have ea3 : a3 = some ⟨g3, 0, none⟩ := (Value.slice.inj e3).1.trans h3
                      have ea4 : a4 = some ⟨g4, 0, none⟩ := (Value.slice.inj e4).1.trans h4
                      clear e1 e3 e4 h1 h3 h4
                      subst ea1 ea3 ea4
                      have hxt : (txs X1)[i]? = some (.string x.1) := by simp [txs, hx]
                      have hxr : (txs X1.reverse)[j]? = some (.string x.1) := by
                        have h1 := HN.out
                        have : X1.reverse[j]? = some x := by
                          rw [List.getElem?_reverse (by omega), ← hx]
                          congr 1
                          omega
                        simp only [txs, List.getElem?_map, this]
                        rfl
                      have c1 : wr.cell? ⟨g1, i, none⟩ = some (.string x.1) := t1 i _ hxt
                      have c3 : wr.cell? ⟨g3, i, none⟩ = some (.string x.1) := t3 i _ hxt
                      have c4 : wr.cell? ⟨g4, j, none⟩ = some (.string x.1) := t4 j _ hxr
                      clear t1 t3 t4 hxt hxr hx z1 z3 z4 hl1 hl4
                      go_wp2_with fail
                      have FA : Hid (∀ W, (∃ q, W = wr.drewN q) → W.cell? ⟨b11, 0, none⟩ = some (.slice (some ⟨g1, 0, none⟩) n k1)) := fun W ⟨q, e⟩ => by rw [e]; exact q11
                      have FB : Hid (∀ W, (∃ q, W = wr.drewN q) → W.cell? ⟨b12, 0, none⟩ = some (.slice (some ⟨g3, 0, none⟩) n k3)) := fun W ⟨q, e⟩ => by rw [e]; exact q12
                      have FC : Hid (∀ W, (∃ q, W = wr.drewN q) → W.cell? ⟨b13, 0, none⟩ = some (.slice (some ⟨g4, 0, none⟩) n k4)) := fun W ⟨q, e⟩ => by rw [e]; exact q13
                      have F1 : Hid (∀ W, (∃ q, W = wr.drewN q) → W.cell? ⟨g1, i, none⟩ = some (.string x.1)) := fun W ⟨q, e⟩ => by rw [e]; exact c1
                      have F3 : Hid (∀ W, (∃ q, W = wr.drewN q) → W.cell? ⟨g3, i, none⟩ = some (.string x.1)) := fun W ⟨q, e⟩ => by rw [e]; exact c3
                      have F4 : Hid (∀ W, (∃ q, W = wr.drewN q) → W.cell? ⟨g4, j, none⟩ = some (.string x.1)) := fun W ⟨q, e⟩ => by rw [e]; exact c4
                      have hCp : ∀ p : Prop, (∀ W, (∃ q, W = wr.drewN q) → p) ↔ p := fun p => ⟨fun h => h _ ⟨0, rfl⟩, fun h _ _ => h⟩
                      have hj2 : Hid (n - 1 - i = j ∧ j < n ∧ i < n ∧ 1 ≤ n ∧ i ≤ n - 1) := ⟨hj, hjn, hin, by omega, by omega⟩
                      clear hj hjn q11 q12 q13 c1 c3 c4
                      refine wp_region_quiet_lit (by kernel_rfl) (by kernel_rfl) ?_
                      repeat (first
                        | go_big_quiet_skip
                        | (go_big_quiet_want
                           first
                           | (refine q_slw (.tmp 11) rfl b11 0 rfl _ _ _ FA.out ?_
                              simp only [Act.put, List.setIfInBounds_toArray, List.set_cons_zero, List.set_cons_succ]
                              go_big_quiet_on)
                           | (refine q_slw (.tmp 12) rfl b12 0 rfl _ _ _ FB.out ?_
                              simp only [Act.put, List.setIfInBounds_toArray, List.set_cons_zero, List.set_cons_succ]
                              go_big_quiet_on)
                           | (refine q_slw (.tmp 13) rfl b13 0 rfl _ _ _ FC.out ?_
                              simp only [Act.put, List.setIfInBounds_toArray, List.set_cons_zero, List.set_cons_succ]
                              go_big_quiet_on)
                           | (refine q_ixw (.tmp 130) (.tmp 131) rfl g1 n k1 i rfl rfl hj2.out.2.2.1 ?_
                              simp only [Act.put, List.setIfInBounds_toArray, List.set_cons_zero, List.set_cons_succ]
                              go_big_quiet_on)
                           | (refine q_ixw (.tmp 134) (.tmp 135) rfl g3 n k3 i rfl rfl hj2.out.2.2.1 ?_
                              simp only [Act.put, List.setIfInBounds_toArray, List.set_cons_zero, List.set_cons_succ]
                              go_big_quiet_on)
                           | (refine q_ixw (.tmp 140) (.tmp 141) rfl g1 n k1 i rfl rfl hj2.out.2.2.1 ?_
                              simp only [Act.put, List.setIfInBounds_toArray, List.set_cons_zero, List.set_cons_succ]
                              go_big_quiet_on)
                           | (refine q_ixw (.tmp 144) (.tmp 149) rfl g4 n k4 j rfl (by show Value.int .i64 ((n - 1 - i : Nat) : Int) = _; rw [hj2.out.1]) hj2.out.2.1 ?_
                              simp only [Act.put, List.setIfInBounds_toArray, List.set_cons_zero, List.set_cons_succ]
                              go_big_quiet_on)
                           | (refine q_cell 9 (.inr (.inl rfl)) (.tmp 132) rfl g1 i rfl _ F1.out ?_
                              simp only [Act.put, List.setIfInBounds_toArray, List.set_cons_zero, List.set_cons_succ]
                              go_big_quiet_on)
                           | (refine q_cell 9 (.inr (.inl rfl)) (.tmp 136) rfl g3 i rfl _ F3.out ?_
                              simp only [Act.put, List.setIfInBounds_toArray, List.set_cons_zero, List.set_cons_succ]
                              go_big_quiet_on)
                           | (refine q_cell 9 (.inr (.inl rfl)) (.tmp 142) rfl g1 i rfl _ F1.out ?_
                              simp only [Act.put, List.setIfInBounds_toArray, List.set_cons_zero, List.set_cons_succ]
                              go_big_quiet_on)
                           | (refine q_cell 9 (.inr (.inl rfl)) (.tmp 150) rfl g4 j rfl _ F4.out ?_
                              simp only [Act.put, List.setIfInBounds_toArray, List.set_cons_zero, List.set_cons_succ]
                              go_big_quiet_on)
                           | (refine q_nes (.tmp 133) (.tmp 137) rfl x.1 rfl rfl ?_
                              simp only [Act.put, List.setIfInBounds_toArray, List.set_cons_zero, List.set_cons_succ]
                              go_big_quiet_on)
                           | (refine q_nes (.tmp 143) (.tmp 151) rfl x.1 rfl rfl ?_
                              simp only [Act.put, List.setIfInBounds_toArray, List.set_cons_zero, List.set_cons_succ]
                              go_big_quiet_on)
                           | (refine q_len (.tmp 145) rfl _ n k1 rfl ?_
                              simp only [Act.put, List.setIfInBounds_toArray, List.set_cons_zero, List.set_cons_succ]
                              go_big_quiet_on)
                           | (refine q_subn (.tmp 146) (.const (.int .i64 1)) rfl n 1 rfl rfl (by omega) hj2.out.2.2.2.1 ?_
                              simp only [Act.put, List.setIfInBounds_toArray, List.set_cons_zero, List.set_cons_succ]
                              go_big_quiet_on)
                           | (refine q_subn (.tmp 147) (.tmp 148) rfl (n - 1) i rfl rfl (by omega) hj2.out.2.2.2.2 ?_
                              simp only [Act.put, List.setIfInBounds_toArray, List.set_cons_zero, List.set_cons_succ]
                              go_big_quiet_on)
                           | (go_big_quiet_op
                              go_big_quiet_on)))
                      refine wpQuiet_nil ?_
                      intro w5 hw'
                      obtain ⟨nq, hw9⟩ := hw'
                      have HG : Hid (S3 w w5 g T M [(b13, .slice (some ⟨g4, 0, none⟩) n k4, txs X1.reverse), (b12, .slice (some ⟨g3, 0, none⟩) n k3, txs X1), (b11, .slice (some ⟨g1, 0, none⟩) n k1, txs X1)] [D4, D3, D2, D1]) := by
                        rw [hw9]
                        exact HR.out.below ⟨rfl, rfl, rfl, Nat.le_refl _, fun _ _ => rfl⟩
                      clear HR hw9 FA FB FC F1 F3 F4 hCp hj2
                      go_wp2
                      go_roundw
                      case rel => exact ⟨i + 1, by omega, by go_num, HG.out⟩
                      case measure => simp [intOf]; omega
                    · obtain rfl : i = n := by omega
                      have K := known_any wr
                      clear q12 q13
                      go_wp2_with fail
                      refine K.mono ?_
                      clear K
                      rintro e w9 ⟨rfl, H⟩
                      have HZ : Hid (S3 w w9 g T M [(b13, .slice a4 i k4, txs X1.reverse), (b12, .slice a3 i k3, txs X1), (b11, .slice a1 i k1, txs X1)] [D4, D3, D2, D1]) := HR.out.below H.out
                      clear H HR
                      go_wp2
                      obtain ⟨hq, _, _, hds, hdn⟩ := HZ.out
                      have d4 := hds D4 (by simp)
                      have d3 := hds D3 (by simp)
                      have d2 := hds D2 (by simp)
                      have d1 := hds D1 (by simp)
                      simp only [List.nodup_cons, List.mem_cons, List.not_mem_nil, or_false, not_or] at hdn
                      obtain ⟨⟨m1, m2, m3⟩, ⟨m4, m5⟩, m6, _⟩ := hdn
                      have G4 := grownBy_putObj' w9 D4 (.deferred none)
                      have Z4 := hq.bl.grown G4 hq.bl.size (fun k e => by injection e with e; omega)
                      have p3 := (World.putObj_heap_other (w := w9) (o := .deferred none) (Ne.symm m1)).trans d3.1
                      have p2 := (World.putObj_heap_other (w := w9) (o := .deferred none) (Ne.symm m2)).trans d2.1
                      have p1 := (World.putObj_heap_other (w := w9) (o := .deferred none) (Ne.symm m3)).trans d1.1
                      refine ⟨by simp, .inl ⟨_, _, rfl, run_takeDeferred d4.1, ?_⟩⟩
                      have G3 := grownBy_putObj' (w9.putObj D4 (.deferred none)) D3 (.deferred none)
                      have Z3 := Z4.grown G3 Z4.size (fun k e => by injection e with e; omega)
                      have s2 := (World.putObj_heap_other (w := w9.putObj D4 (.deferred none)) (o := .deferred none) (Ne.symm m4)).trans p2
                      have s1 := (World.putObj_heap_other (w := w9.putObj D4 (.deferred none)) (o := .deferred none) (Ne.symm m5)).trans p1
                      refine ⟨by simp, .inl ⟨_, _, rfl, run_takeDeferred p3, ?_⟩⟩
                      have G2 := grownBy_putObj' ((w9.putObj D4 (.deferred none)).putObj D3 (.deferred none)) D2 (.deferred none)
                      have Z2 := Z3.grown G2 Z3.size (fun k e => by injection e with e; omega)
                      have u1 := (World.putObj_heap_other (w := (w9.putObj D4 (.deferred none)).putObj D3 (.deferred none)) (o := .deferred none) (Ne.symm m6)).trans s1
                      refine ⟨by simp, .inl ⟨_, _, rfl, run_takeDeferred s2, ?_⟩⟩
                      have G1 := grownBy_putObj' (((w9.putObj D4 (.deferred none)).putObj D3 (.deferred none)).putObj D2 (.deferred none)) D1 (.deferred none)
                      have Z1 := Z2.grown G1 Z2.size (fun k e => by injection e with e; omega)
                      refine ⟨by simp, .inl ⟨_, _, rfl, run_takeDeferred u1, ?_⟩⟩
                      exact ⟨_, results_tmp rfl _ _ _, rfl, Z1⟩
end Go.Proofs.Yteokjfpppmnebaa
