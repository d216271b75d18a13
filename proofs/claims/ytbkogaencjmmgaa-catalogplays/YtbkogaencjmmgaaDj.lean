/-
  CatalogPlays' walk.
-/
import Derived.Test.YtbkogaencjmmgaaDi
namespace Go.Proofs.Ytbkogaencjmmgaa
open Go.RowKit Go.MapKept
set_option linter.unusedVariables false
set_option linter.unusedSimpArgs false
theorem q_ixe {C : World → Prop} {a : Act} {o : Oper} {K : Act → Prop} (x y : Operand) (ho : o.op = .indexAddr 22 x y) (b off n c k : Nat) (hx : a.eval x = .slice (some ⟨b, off, none⟩) n c) (hy : a.eval y = .int .i64 (k : Int)) (hk1 : k < n)
    (hk : K (a.put o.dst (.pointer (some ⟨b, off + k * 46, none⟩)))) : o.quiet Try.prog a C K :=
  ⟨_, fun w hw => by
    unfold Oper.quietAt execOp
    have h1 : ¬ ((k : Int) < 0) := by omega
    have h2 : ¬ ((n : Int) ≤ (k : Int)) := by omega
    simp only [ho, hx, hy]
    go_simp, hk⟩
theorem q_ixs {C : World → Prop} {a : Act} {o : Oper} {K : Act → Prop} (x y : Operand) (ho : o.op = .indexAddr 28 x y) (b n c k : Nat) (hx : a.eval x = .slice (some ⟨b, 0, none⟩) n c) (hy : a.eval y = .int .i64 (k : Int)) (hk1 : k < n)
    (hk : K (a.put o.dst (.pointer (some ⟨b, k * 4, none⟩)))) : o.quiet Try.prog a C K :=
  ⟨_, fun w hw => by
    unfold Oper.quietAt execOp
    have h1 : ¬ ((k : Int) < 0) := by omega
    have h2 : ¬ ((n : Int) ≤ (k : Int)) := by omega
    simp only [ho, hx, hy]
    go_simp, hk⟩
theorem s9' : (Try.prog.info? 9).map (·.size) = some 1 := by kernel_rfl
theorem row_set {w' : World} {e n q : Nat} {bx xc : Nat} {xs sp : List Value} {v : Value} (hq : q < n) (hb : Blk w' bx e ((xs ++ sp).set q v)) (hl : (xs ++ sp).length = xc * 1) (hc : xc ≤ maxLen) (hn : n ≤ xc) (hx : xs.length = n * 1) : w'.ownsRow 0 e 1 (.slice (some ⟨bx, 0, none⟩) n xc) n (xs.set q v) := by
  rw [List.set_append_left _ _ (by omega)] at hb
  exact val_row (sp := sp) hb hn (by rw [List.length_append, List.length_set, ← List.length_append]; exact hl) hc (by rw [List.length_set]; exact hx)
set_option maxRecDepth 10000 in
set_option maxHeartbeats 8000000 in
theorem plays_walk (a0 : Option Addr) (cap : Nat) (l : List Ent) (cp : Int) (fd : ByteArray) (hfd : fd.size ≤ 140737488355328) (w : World) (hs : Scr w a0 l) (hz : ∀ y ∈ l, EntOk y) : Calls Try.prog 3 #[.slice a0 l.length cap, .int .i64 cp, .string fd] w fun e w' => e = .returned (.bool true) ∧ Hid (Below w.heap.size w w') := by
  have HS : Hid (Scr w a0 l) := hs
  have HZ : Hid (∀ y ∈ l, EntOk y) := hz
  have K := heavy_any a0 cap l w hs hz
  obtain ⟨fz, hfz⟩ : ∃ fz, fd.size = fz := ⟨_, rfl⟩
  clear hs hz
  go_enter Try.func3, Try.ntmps3
  go_wp2_with fail
  refine K.mono ?_
  clear K
  rintro e w1 ⟨⟨t, rfl⟩, hw⟩
  have hw' := hw.symm
  subst hw'
  clear hw
  cases t with
  | true =>
    have K := known_any w
    go_wp2_with fail
    refine K.mono ?_
    clear K
    rintro e w2 ⟨rfl, H⟩
    go_wp2
    go_ret
    exact ⟨rfl, H.out⟩
  | false =>
    by_cases hbig : fz > 500
    · have hbig' : (fz : Int) > 500 := by omega
      have K := known_any w
      go_wp2_with fail
      refine K.mono ?_
      clear K
      rintro e w2 ⟨rfl, H⟩
      go_wp2
      go_ret
      exact ⟨rfl, H.out⟩
    have hbig' : ¬ (fz : Int) > 500 := by omega
    have hfm : fd.size ≤ maxLen := by unfold maxLen; omega
    have K := st_new w.heap.size w w (Below.refl _ _) (Nat.le_refl _) (Nat.le_refl _)
    go_wp2_with fail
    refine K.mono ?_
    clear K
    rintro e w2 ⟨g0, rfl, H⟩
    have HST : Hid (St w.heap.size w w2 g0 []) := H.out
    clear H
    go_wp2_with (refine al_box rfl 30 (.tmp 33) rfl [.slice none 0 0] rfl ?_)
    intro gr0 w3 l3 B3 G3
    have H0 : Hid (Two w.heap.size w3.heap.size w w3 g0 [] gr0 []) := two_new _ _ _ _ HST.out gr0 w3 (below_none (Below.refl _ _) (Nat.le_refl _) G3) B3 l3
    clear B3 G3 l3 HST
    go_wp2
    go_loopw [7, 8, 9] (fun c v i wr => ∃ (g gr k : Nat) (A : List Tb), c = .pointer (some ⟨g, 0, none⟩) ∧ v = .pointer (some ⟨gr, 0, none⟩) ∧ k ≤ l.length ∧ k ≤ 150 ∧ i = .int .i64 (k : Int) ∧ Hid (∃ N, Two w.heap.size N w wr g A gr A)) (fun _ _ i _ => 150 - (intOf i).toNat)
    case atStart => exact ⟨g0, gr0, 0, [], rfl, rfl, by omega, by omega, rfl, _, H0.out⟩
    case round =>
      obtain ⟨g, gr, k, A, rfl, rfl, hk, hk4, rfl, HI⟩ := hrel
      obtain ⟨N0, hT0⟩ := HI.out
      have HT : Hid (Two w.heap.size N0 w wr g A gr A) := hT0
      clear H0 HI hT0
      by_cases hlt : k < l.length ∧ k < 150
      case neg =>
        have HB : Hid (Below w.heap.size w wr) := HT.out.bl
        have K := known_any wr
        clear HT
        by_cases hl1 : k < l.length
        · have hl1' : (k : Int) < (l.length : Int) := by omega
          have hl2' : ¬ (k : Int) < 150 := by omega
          go_wp2_with fail
          refine K.mono ?_
          clear K
          rintro e w4 ⟨rfl, H⟩
          have HF : Hid (Below w.heap.size w w4) := HB.out.trans (H.out.mono HB.out.size)
          clear H HB
          go_wp2
          go_ret
          exact ⟨rfl, HF.out⟩
        · have hl1' : ¬ (k : Int) < (l.length : Int) := by omega
          go_wp2_with fail
          refine K.mono ?_
          clear K
          rintro e w4 ⟨rfl, H⟩
          have HF : Hid (Below w.heap.size w w4) := HB.out.trans (H.out.mono HB.out.size)
          clear H HB
          go_wp2
          go_ret
          exact ⟨rfl, HF.out⟩
      obtain ⟨hl1, hl2⟩ := hlt
      have hl1' : (k : Int) < (l.length : Int) := by omega
      have hl2' : (k : Int) < 150 := by omega
      obtain ⟨y, hsk⟩ : ∃ y, l[k]? = some y := ⟨_, List.getElem?_eq_getElem hl1⟩
      obtain ⟨b, off, rfl, hr0⟩ := HS.out.at hsk
      have HY : Hid (EntOk y) := HZ.out y (List.mem_of_getElem? hsk)
      have HQ : Hid (∀ W, Below w.heap.size w W → W.rangeAt b (off + k * 46) y.ec) := fun W hW j v hj => (hW.cell (p := ⟨b, off + k * 46 + j, none⟩) (cell_lt (hr0 j v hj))).trans (hr0 j v hj)
      have HQ1 : Hid (∀ W, Below w.heap.size w W → W.cell? ⟨b, off + k * 46 + 1, none⟩ = some (.string y.s)) := fun W hW => HQ.out W hW 1 _ HY.out.en.s
      have HQ2 : Hid (∀ W, Below w.heap.size w W → W.cell? ⟨b, off + k * 46 + 2, none⟩ = some (.int .i64 y.id)) := fun W hW => HQ.out W hW 2 _ HY.out.en.id
      have sE : (Try.prog.info? 42).map (·.size) = some y.ec.length := by rw [HY.out.en.len]; kernel_rfl
      have hx1 : ¬ ((k : Int) < 0) := by omega
      have hx2 : ¬ ((l.length : Int) ≤ (k : Int)) := by omega
      obtain ⟨A1, HA1⟩ : ∃ A1, Hid (apA A y.k y.id y.s = A1) := ⟨_, rfl⟩
      obtain ⟨E1, HE1⟩ : ∃ E1, Hid (apE A y.k y.id y.s = E1) := ⟨_, rfl⟩
      have HAC : Hid (∀ W, Two w.heap.size N0 w W g A gr A → Calls Try.prog 10 #[.pointer (some ⟨g, 0, none⟩), .agg y.ec.toArray] W fun e w' => e = .returned (.int .i64 E1) ∧ Hid (Two w.heap.size w'.heap.size w w' g A1 gr A)) := fun W hW => by
        have := two_apply w.heap.size N0 w g gr A A y.k y.id y.s y.ec HY.out.en (by have := HY.out.sz; omega) W hW
        rw [HE1.out, HA1.out] at this
        exact this
      have HAR : Hid (∀ W, Two w.heap.size W.heap.size w W g A1 gr A → Calls Try.prog 11 #[.pointer (some ⟨gr, 0, none⟩), .agg y.ec.toArray] W fun e w' => e = .returned (.int .i64 E1) ∧ Hid (Two w.heap.size w'.heap.size w w' g A1 gr A1)) := fun W hW => by
        have := two_rap w.heap.size W.heap.size w g gr A1 A y.k y.id y.s y.ec HY.out.en W hW
        rw [HE1.out, HA1.out] at this
        exact this
      clear hsk hr0
      obtain ⟨C, hC⟩ : ∃ C : World → Prop, C = fun W => Below w.heap.size w W := ⟨_, rfl⟩
      have CM : Hid (∀ W, Below w.heap.size w W → C W) := fun W h => by rw [hC]; exact h
      have FE : Hid (∀ W, C W → W.rangeAt b (off + k * 46) y.ec) := fun W h => by rw [hC] at h; exact HQ.out W h
      have C0 : Hid (C { wr with drawn := wr.drawn + 1 }) := by rw [hC]; exact Below.drew HT.out.bl
      have HT0 : Hid (Two w.heap.size N0 w { wr with drawn := wr.drawn + 1 } g A gr A) := HT.out.below (Below.drew (Below.refl _ _))
      clear hC HT
      go_wp2_with fail
      refine region_calm C 100 (by kernel_rfl) ?_
      have hCp : ∀ p : Prop, (∀ W, C W → p) ↔ p := fun p => ⟨fun h => h _ C0.out, fun h _ _ => h⟩
      generalize ({ wr with drawn := wr.drawn + 1 } : World) = y0 at *
      refine seg0 3 [0, 1, 2, 3, 4, 6, 7, 8, 9, 10] rfl (by decide) (by kernel_rfl) whole_blind C0.out (by decide +kernel) ?_
      change wpQuiet _ _ _ _ (_ :: _ :: _ :: _ :: _ :: _ :: _ :: _ :: _ :: _ :: []) _
      repeat (first
        | go_big_quiet_skip
        | (go_big_quiet_want
           first
           | (refine q_ixe (.tmp 46) (.tmp 47) rfl b off l.length cap k rfl rfl hl1 ?_
              simp only [Act.put, List.setIfInBounds_toArray, List.set_cons_zero, List.set_cons_succ]
              go_big_quiet_on)
           | (refine q_ixe (.tmp 52) (.tmp 53) rfl b off l.length cap k rfl rfl hl1 ?_
              simp only [Act.put, List.setIfInBounds_toArray, List.set_cons_zero, List.set_cons_succ]
              go_big_quiet_on)
           | (refine q_load 42 (.tmp 48) rfl b (off + k * 46) rfl y.ec _ FE.out Try.underlying42 rfl sE ?_
              simp only [Act.put, List.setIfInBounds_toArray, List.set_cons_zero, List.set_cons_succ]
              go_big_quiet_on)
           | (refine q_load 42 (.tmp 54) rfl b (off + k * 46) rfl y.ec _ FE.out Try.underlying42 rfl sE ?_
              simp only [Act.put, List.setIfInBounds_toArray, List.set_cons_zero, List.set_cons_succ]
              go_big_quiet_on)
           | (go_big_quiet_op
              go_big_quiet_on)))
      refine wpQuiet_nil ?_
      refine lone_do (i := 5) 2 rfl (by decide +kernel) rfl (by rfl) ?_
      intro K hK
      refine oper_calls 10 _ _ rfl #[.pointer (some ⟨g, 0, none⟩), .agg y.ec.toArray] (by rw [List.map_toArray]; rfl) (enters Try.func10 (by kernel_rfl) rfl) (fun v w' => v = .int .i64 E1 ∧ Hid (Two w.heap.size w'.heap.size w w' g A1 gr A)) ((HAC.out _ HT0.out).mono (by rintro e w' ⟨rfl, h⟩; exact ⟨_, rfl, rfl, h⟩)) ?_
      rintro v y1 ⟨rfl, H1⟩
      refine hK _ _ (CM.out _ H1.out.bl) ?_
      clear hK K
      simp only [Act.put, List.setIfInBounds_toArray, List.set_cons_zero, List.set_cons_succ]
      refine lone_do (i := 11) 1 rfl (by decide +kernel) rfl (by rfl) ?_
      intro K hK
      refine oper_calls 11 _ _ rfl #[.pointer (some ⟨gr, 0, none⟩), .agg y.ec.toArray] (by rw [List.map_toArray]; rfl) (enters Try.func11 (by kernel_rfl) rfl) (fun v w' => v = .int .i64 E1 ∧ Hid (Two w.heap.size w'.heap.size w w' g A1 gr A1)) ((HAR.out _ H1.out).mono (by rintro e w' ⟨rfl, h⟩; exact ⟨_, rfl, rfl, h⟩)) ?_
      rintro v y2 ⟨rfl, H2⟩
      refine hK _ _ (CM.out _ H2.out.bl) ?_
      clear hK K H1
      simp only [Act.put, List.setIfInBounds_toArray, List.set_cons_zero, List.set_cons_succ]
      refine lone_calm (i := 12) 0 rfl (by decide +kernel) rfl rfl (CM.out _ H2.out.bl) ?_
      repeat (first
        | go_big_quiet_skip
        | (go_big_quiet_want
           first
           | (go_big_quiet_op
              go_big_quiet_on)))
      refine wpQuiet_nil ?_
      refine anyC_done (by decide +kernel) ⟨rfl, ?_⟩
      obtain ⟨N, HN0⟩ : ∃ N, Hid (y2.heap.size = N) := ⟨_, rfl⟩
      have IT0 : Hid (It w.heap.size N w y2 g A1 gr [] [] []) := ⟨by rw [← HN0.out]; exact H2.out, by simp, by simp, by simp⟩
      have q10 := HQ1.out y2 H2.out.bl
      clear H2 HT0 C0 CM FE hCp HAC HAR HA1 HE1 HN0 sE
      obtain ⟨r, hr⟩ : ∃ r, finR A1 y.s = r := ⟨_, rfl⟩
      obtain ⟨tt, htt⟩ : ∃ tt, tabR A1 y.id = tt := ⟨_, rfl⟩
      have hrl : r.2.1.fs.length ≤ 16 := by rw [← hr]; exact fin_len IT0.out.two.ok _
      have htl : tt.2.1.fs.length ≤ 16 := by rw [← htt]; exact tab_len IT0.out.two.ok _
      have HR : Hid (finR A1 y.s = r) := hr
      have HTT : Hid (tabR A1 y.id = tt) := htt
      clear hr htt
      have K := two_find w.heap.size N w g gr A1 A1 y.s y2 IT0.out.two
      rw [HR.out] at K
      go_wp2_with fail
      refine K.mono ?_
      clear K
      rintro e p0 ⟨v0, rfl, H⟩
      have hv0 : ∃ va vc, v0 = .slice va r.2.1.fs.length vc := by
        obtain ⟨va, vc, e, _⟩ := row_val H.out.1.row
        exact ⟨va, vc, e⟩
      obtain ⟨va0, vc0, rfl⟩ := hv0
      have J0 : Hid (It w.heap.size N w p0 g A1 gr [] [((Value.slice va0 r.2.1.fs.length vc0), r.2.1.fs)] []) := (IT0.out.below H.out.2).addT (own_txs (n := 0) H.out.1.row)
      clear H IT0 q10
      simp only [rV]
      go_wp2_with (refine al_zero rfl 46 rfl _ zTl ?_)
      intro g10 q0 l0 B0 G0
      have b0 : Below p0.heap.size p0 q0 := below_none (Below.refl _ _) (Nat.le_refl _) G0
      have HZ0 : Hid (Blk q0 g10 46 (tlC 0 ⟨#[]⟩ false (.slice none 0 0))) := B0
      have HL0 : Hid (p0.heap.size ≤ g10 ∧ Below p0.heap.size p0 q0) := ⟨l0, b0⟩
      clear B0 G0 b0 l0
      go_wp2_with (refine st_all rfl 46 (.tmp 10) (.tmp 66) rfl g10 46 _ (tlC r.1 r.2.1.name r.2.1.gone (Value.slice va0 r.2.1.fs.length vc0)) rfl rfl HZ0.out rfl (sTl _ _ _ _) (tl_one rfl) ?_)
      intro r0 B0 G0
      have IT1 : Hid (It w.heap.size N w r0 g A1 gr [(g10, 46, (tlC r.1 r.2.1.name r.2.1.gone (Value.slice va0 r.2.1.fs.length vc0)))] [((Value.slice va0 r.2.1.fs.length vc0), r.2.1.fs)] []) := (J0.out.below (HL0.out.2.grown G0 HL0.out.2.size (fun r e => by injection e with e; subst e; exact HL0.out.1))).addB B0
      clear B0 G0 HZ0 HL0 J0
      have q11 := HQ1.out r0 IT1.out.two.bl
      have K := two_rfind w.heap.size N w g gr A1 A1 y.s r0 IT1.out.two
      rw [HR.out] at K
      go_wp2_with fail
      refine K.mono ?_
      clear K
      rintro e p1 ⟨v1, rfl, H⟩
      have hv1 : ∃ va vc, v1 = .slice va r.2.1.fs.length vc := by
        obtain ⟨va, vc, e, _⟩ := H.out.1
        exact ⟨va, vc, e⟩
      obtain ⟨va1, vc1, rfl⟩ := hv1
      have J1 : Hid (It w.heap.size N w p1 g A1 gr [(g10, 46, (tlC r.1 r.2.1.name r.2.1.gone (Value.slice va0 r.2.1.fs.length vc0)))] [((Value.slice va1 r.2.1.fs.length vc1), r.2.1.fs), ((Value.slice va0 r.2.1.fs.length vc0), r.2.1.fs)] []) := (IT1.out.below H.out.2).addT H.out.1
      clear H IT1 q11
      simp only [rV]
      go_wp2_with (refine al_zero rfl 50 rfl _ sTb4 ?_)
      intro g12 q1 l1 B1 G1
      have b1 : Below p1.heap.size p1 q1 := below_none (Below.refl _ _) (Nat.le_refl _) G1
      have HZ1 : Hid (Blk q1 g12 50 (tlC 0 ⟨#[]⟩ false (.slice none 0 0))) := B1
      have HL1 : Hid (p1.heap.size ≤ g12 ∧ Below p1.heap.size p1 q1) := ⟨l1, b1⟩
      clear B1 G1 b1 l1
      go_wp2_with (refine st_all rfl 50 (.tmp 12) (.tmp 76) rfl g12 50 _ (tlC r.1 r.2.1.name r.2.1.gone (Value.slice va1 r.2.1.fs.length vc1)) rfl rfl HZ1.out rfl (sRt' _ _ _ _) (tl_one rfl) ?_)
      intro r1 B1 G1
      have IT2 : Hid (It w.heap.size N w r1 g A1 gr [(g12, 50, (tlC r.1 r.2.1.name r.2.1.gone (Value.slice va1 r.2.1.fs.length vc1))), (g10, 46, (tlC r.1 r.2.1.name r.2.1.gone (Value.slice va0 r.2.1.fs.length vc0)))] [((Value.slice va1 r.2.1.fs.length vc1), r.2.1.fs), ((Value.slice va0 r.2.1.fs.length vc0), r.2.1.fs)] []) := (J1.out.below (HL1.out.2.grown G1 HL1.out.2.size (fun r e => by injection e with e; subst e; exact HL1.out.1))).addB B1
      clear B1 G1 HZ1 HL1 J1
      have q12 := HQ2.out r1 IT2.out.two.bl
      have K := two_table w.heap.size N w g gr A1 A1 y.id r1 IT2.out.two
      rw [HTT.out] at K
      go_wp2_with fail
      refine K.mono ?_
      clear K
      rintro e p2 ⟨v2, rfl, H⟩
      have hv2 : ∃ va vc, v2 = .slice va tt.2.1.fs.length vc := by
        obtain ⟨va, vc, e, _⟩ := row_val H.out.1.row
        exact ⟨va, vc, e⟩
      obtain ⟨va2, vc2, rfl⟩ := hv2
      have J2 : Hid (It w.heap.size N w p2 g A1 gr [(g12, 50, (tlC r.1 r.2.1.name r.2.1.gone (Value.slice va1 r.2.1.fs.length vc1))), (g10, 46, (tlC r.1 r.2.1.name r.2.1.gone (Value.slice va0 r.2.1.fs.length vc0)))] [((Value.slice va1 r.2.1.fs.length vc1), r.2.1.fs), ((Value.slice va0 r.2.1.fs.length vc0), r.2.1.fs)] [((Value.slice va2 tt.2.1.fs.length vc2), tt.2.1.fs)]) := (IT2.out.below H.out.2).addO H.out.1.row (fun x hx => Nat.le_trans IT2.out.two.le.2 (H.out.1.new x hx))
      clear H IT2 q12
      simp only [rV]
      go_wp2_with (refine al_zero rfl 46 rfl _ zTl ?_)
      intro g14 q2 l2 B2 G2
      have b2 : Below p2.heap.size p2 q2 := below_none (Below.refl _ _) (Nat.le_refl _) G2
      have HZ2 : Hid (Blk q2 g14 46 (tlC 0 ⟨#[]⟩ false (.slice none 0 0))) := B2
      have HL2 : Hid (p2.heap.size ≤ g14 ∧ Below p2.heap.size p2 q2) := ⟨l2, b2⟩
      clear B2 G2 b2 l2
      go_wp2_with (refine st_all rfl 46 (.tmp 14) (.tmp 86) rfl g14 46 _ (tlC tt.1 tt.2.1.name tt.2.1.gone (Value.slice va2 tt.2.1.fs.length vc2)) rfl rfl HZ2.out rfl (sTl _ _ _ _) (tl_one rfl) ?_)
      intro r2 B2 G2
      have IT3 : Hid (It w.heap.size N w r2 g A1 gr [(g14, 46, (tlC tt.1 tt.2.1.name tt.2.1.gone (Value.slice va2 tt.2.1.fs.length vc2))), (g12, 50, (tlC r.1 r.2.1.name r.2.1.gone (Value.slice va1 r.2.1.fs.length vc1))), (g10, 46, (tlC r.1 r.2.1.name r.2.1.gone (Value.slice va0 r.2.1.fs.length vc0)))] [((Value.slice va1 r.2.1.fs.length vc1), r.2.1.fs), ((Value.slice va0 r.2.1.fs.length vc0), r.2.1.fs)] [((Value.slice va2 tt.2.1.fs.length vc2), tt.2.1.fs)]) := (J2.out.below (HL2.out.2.grown G2 HL2.out.2.size (fun r e => by injection e with e; subst e; exact HL2.out.1))).addB B2
      clear B2 G2 HZ2 HL2 J2
      have q13 := HQ2.out r2 IT3.out.two.bl
      have K := two_rtable w.heap.size N w g gr A1 A1 y.id r2 IT3.out.two
      rw [HTT.out] at K
      go_wp2_with fail
      refine K.mono ?_
      clear K
      rintro e p3 ⟨v3, rfl, H⟩
      have hv3 : ∃ va vc, v3 = .slice va tt.2.1.fs.length vc := by
        obtain ⟨va, vc, e, _⟩ := H.out.1
        exact ⟨va, vc, e⟩
      obtain ⟨va3, vc3, rfl⟩ := hv3
      have J3 : Hid (It w.heap.size N w p3 g A1 gr [(g14, 46, (tlC tt.1 tt.2.1.name tt.2.1.gone (Value.slice va2 tt.2.1.fs.length vc2))), (g12, 50, (tlC r.1 r.2.1.name r.2.1.gone (Value.slice va1 r.2.1.fs.length vc1))), (g10, 46, (tlC r.1 r.2.1.name r.2.1.gone (Value.slice va0 r.2.1.fs.length vc0)))] [((Value.slice va3 tt.2.1.fs.length vc3), tt.2.1.fs), ((Value.slice va1 r.2.1.fs.length vc1), r.2.1.fs), ((Value.slice va0 r.2.1.fs.length vc0), r.2.1.fs)] [((Value.slice va2 tt.2.1.fs.length vc2), tt.2.1.fs)]) := (IT3.out.below H.out.2).addT H.out.1
      clear H IT3 q13
      simp only [rV]
      go_wp2_with (refine al_zero rfl 50 rfl _ sTb4 ?_)
      intro g16 q3 l3 B3 G3
      have b3 : Below p3.heap.size p3 q3 := below_none (Below.refl _ _) (Nat.le_refl _) G3
      have HZ3 : Hid (Blk q3 g16 50 (tlC 0 ⟨#[]⟩ false (.slice none 0 0))) := B3
      have HL3 : Hid (p3.heap.size ≤ g16 ∧ Below p3.heap.size p3 q3) := ⟨l3, b3⟩
      clear B3 G3 b3 l3
      go_wp2_with (refine st_all rfl 50 (.tmp 16) (.tmp 96) rfl g16 50 _ (tlC tt.1 tt.2.1.name tt.2.1.gone (Value.slice va3 tt.2.1.fs.length vc3)) rfl rfl HZ3.out rfl (sRt' _ _ _ _) (tl_one rfl) ?_)
      intro r3 B3 G3
      have IT4 : Hid (It w.heap.size N w r3 g A1 gr [(g16, 50, (tlC tt.1 tt.2.1.name tt.2.1.gone (Value.slice va3 tt.2.1.fs.length vc3))), (g14, 46, (tlC tt.1 tt.2.1.name tt.2.1.gone (Value.slice va2 tt.2.1.fs.length vc2))), (g12, 50, (tlC r.1 r.2.1.name r.2.1.gone (Value.slice va1 r.2.1.fs.length vc1))), (g10, 46, (tlC r.1 r.2.1.name r.2.1.gone (Value.slice va0 r.2.1.fs.length vc0)))] [((Value.slice va3 tt.2.1.fs.length vc3), tt.2.1.fs), ((Value.slice va1 r.2.1.fs.length vc1), r.2.1.fs), ((Value.slice va0 r.2.1.fs.length vc0), r.2.1.fs)] [((Value.slice va2 tt.2.1.fs.length vc2), tt.2.1.fs)]) := (J3.out.below (HL3.out.2.grown G3 HL3.out.2.size (fun r e => by injection e with e; subst e; exact HL3.out.1))).addB B3
      clear B3 G3 HZ3 HL3 J3
      have hym : y.s.size ≤ maxLen := by have := HY.out.sz; unfold maxLen; omega
      obtain ⟨hb1, HH1⟩ : ∃ hb1, Hid (hasB A1 y.id y.s = hb1) := ⟨_, rfl⟩
      obtain ⟨hb2, HH2⟩ : ∃ hb2, Hid (hasB A1 y.id fd = hb2) := ⟨_, rfl⟩
      have HIW : Hid (∀ V, Below r3.heap.size r3 V → It w.heap.size N w V g A1 gr [(g16, 50, (tlC tt.1 tt.2.1.name tt.2.1.gone (Value.slice va3 tt.2.1.fs.length vc3))), (g14, 46, (tlC tt.1 tt.2.1.name tt.2.1.gone (Value.slice va2 tt.2.1.fs.length vc2))), (g12, 50, (tlC r.1 r.2.1.name r.2.1.gone (Value.slice va1 r.2.1.fs.length vc1))), (g10, 46, (tlC r.1 r.2.1.name r.2.1.gone (Value.slice va0 r.2.1.fs.length vc0)))] [((Value.slice va3 tt.2.1.fs.length vc3), tt.2.1.fs), ((Value.slice va1 r.2.1.fs.length vc1), r.2.1.fs), ((Value.slice va0 r.2.1.fs.length vc0), r.2.1.fs)] [((Value.slice va2 tt.2.1.fs.length vc2), tt.2.1.fs)]) := fun V hV => IT4.out.below hV
      have HK1 : Hid (∀ V, Below r3.heap.size r3 V → Calls Try.prog 16 #[.agg (tlC r.1 r.2.1.name r.2.1.gone (Value.slice va0 r.2.1.fs.length vc0)).toArray, .agg (tlC r.1 r.2.1.name r.2.1.gone (Value.slice va1 r.2.1.fs.length vc1)).toArray] V fun e w' => e = .returned (.bool true) ∧ Hid (Below V.heap.size V w')) := fun V hV => tables_true r.1 r.2.1.name r.2.1.gone r.2.1.fs (Value.slice va0 r.2.1.fs.length vc0) (Value.slice va1 r.2.1.fs.length vc1) (by omega) V ((HIW.out V hV).txs ((Value.slice va0 r.2.1.fs.length vc0), r.2.1.fs) (by simp)) ((HIW.out V hV).txs ((Value.slice va1 r.2.1.fs.length vc1), r.2.1.fs) (by simp))
      have HK2 : Hid (∀ V, Below r3.heap.size r3 V → Calls Try.prog 16 #[.agg (tlC tt.1 tt.2.1.name tt.2.1.gone (Value.slice va2 tt.2.1.fs.length vc2)).toArray, .agg (tlC tt.1 tt.2.1.name tt.2.1.gone (Value.slice va3 tt.2.1.fs.length vc3)).toArray] V fun e w' => e = .returned (.bool true) ∧ Hid (Below V.heap.size V w')) := fun V hV => tables_true tt.1 tt.2.1.name tt.2.1.gone tt.2.1.fs (Value.slice va2 tt.2.1.fs.length vc2) (Value.slice va3 tt.2.1.fs.length vc3) (by omega) V (own_txs (n := 0) ((HIW.out V hV).own ((Value.slice va2 tt.2.1.fs.length vc2), tt.2.1.fs) (by simp)).1) ((HIW.out V hV).txs ((Value.slice va3 tt.2.1.fs.length vc3), tt.2.1.fs) (by simp))
      have HK3 : Hid (∀ V, Below r3.heap.size r3 V → Calls Try.prog 17 #[.pointer (some ⟨g, 0, none⟩), .int .i64 y.id, .string y.s] V fun e w' => e = .returned (.bool hb1) ∧ Below V.heap.size V w') := fun V hV => by
        have := two_has w.heap.size N w g gr A1 A1 y.id y.s HY.out.i64 hym V (HIW.out V hV).two
        rw [HH1.out] at this
        exact this
      have HK4 : Hid (∀ V, Below r3.heap.size r3 V → Calls Try.prog 18 #[.pointer (some ⟨gr, 0, none⟩), .int .i64 y.id, .string y.s] V fun e w' => e = .returned (.bool hb1) ∧ w' = V) := fun V hV => by
        have := two_rhas w.heap.size N w g gr A1 A1 y.id y.s V (HIW.out V hV).two
        rw [HH1.out] at this
        exact this
      have HK5 : Hid (∀ V, Below r3.heap.size r3 V → Calls Try.prog 17 #[.pointer (some ⟨g, 0, none⟩), .int .i64 y.id, .string fd] V fun e w' => e = .returned (.bool hb2) ∧ Below V.heap.size V w') := fun V hV => by
        have := two_has w.heap.size N w g gr A1 A1 y.id fd HY.out.i64 hfm V (HIW.out V hV).two
        rw [HH2.out] at this
        exact this
      have HK6 : Hid (∀ V, Below r3.heap.size r3 V → Calls Try.prog 18 #[.pointer (some ⟨gr, 0, none⟩), .int .i64 y.id, .string fd] V fun e w' => e = .returned (.bool hb2) ∧ w' = V) := fun V hV => by
        have := two_rhas w.heap.size N w g gr A1 A1 y.id fd V (HIW.out V hV).two
        rw [HH2.out] at this
        exact this
      obtain ⟨C, hC⟩ : ∃ C : World → Prop, C = fun W => Below r3.heap.size r3 W := ⟨_, rfl⟩
      have FA : Hid (∀ W, C W → W.rangeAt g10 0 (tlC r.1 r.2.1.name r.2.1.gone (Value.slice va0 r.2.1.fs.length vc0))) := fun W hW => by rw [hC] at hW; exact ((HIW.out W hW).blk (g10, 46, (tlC r.1 r.2.1.name r.2.1.gone (Value.slice va0 r.2.1.fs.length vc0))) (by simp)).all
      have FB : Hid (∀ W, C W → W.rangeAt g12 0 (tlC r.1 r.2.1.name r.2.1.gone (Value.slice va1 r.2.1.fs.length vc1))) := fun W hW => by rw [hC] at hW; exact ((HIW.out W hW).blk (g12, 50, (tlC r.1 r.2.1.name r.2.1.gone (Value.slice va1 r.2.1.fs.length vc1))) (by simp)).all
      have FX : Hid (∀ W, C W → W.rangeAt g14 0 (tlC tt.1 tt.2.1.name tt.2.1.gone (Value.slice va2 tt.2.1.fs.length vc2))) := fun W hW => by rw [hC] at hW; exact ((HIW.out W hW).blk (g14, 46, (tlC tt.1 tt.2.1.name tt.2.1.gone (Value.slice va2 tt.2.1.fs.length vc2))) (by simp)).all
      have FY : Hid (∀ W, C W → W.rangeAt g16 0 (tlC tt.1 tt.2.1.name tt.2.1.gone (Value.slice va3 tt.2.1.fs.length vc3))) := fun W hW => by rw [hC] at hW; exact ((HIW.out W hW).blk (g16, 50, (tlC tt.1 tt.2.1.name tt.2.1.gone (Value.slice va3 tt.2.1.fs.length vc3))) (by simp)).all
      have F1 : Hid (∀ W, C W → W.cell? ⟨b, off + k * 46 + 1, none⟩ = some (.string y.s)) := fun W hW => by rw [hC] at hW; exact HQ1.out W (HIW.out W hW).two.bl
      have F2 : Hid (∀ W, C W → W.cell? ⟨b, off + k * 46 + 2, none⟩ = some (.int .i64 y.id)) := fun W hW => by rw [hC] at hW; exact HQ2.out W (HIW.out W hW).two.bl
      have CG : Hid (∀ w w', C w → Grow w w' → C w') := fun W W' h1 h2 => by rw [hC] at h1 ⊢; exact h1.trans (h2.mono h1.size)
      have CE : Hid (∀ W, C W → Below r3.heap.size r3 W) := fun W h => by rw [hC] at h; exact h
      have C0 : Hid (C { r3 with drawn := r3.drawn + 1 }) := by rw [hC]; exact Below.drew (Below.refl _ _)
      clear hC
      clear IT4
      go_wp2_with fail
      simp only [List.append]
      refine region_grow [] (by kernel_rfl) ?_
      have hCp : ∀ p : Prop, (∀ W, C W → p) ↔ p := fun p => ⟨fun h => h _ C0.out, fun h _ _ => h⟩
      generalize ({ r3 with drawn := r3.drawn + 1 } : World) = y0 at *
      refine segR 64 [0, 1] rfl (by kernel_rfl) whole_blind CG.out C0.out (by decide +kernel) ?_
      change wpQuiet _ _ _ _ (_ :: _ :: []) _
      repeat (first
        | go_big_quiet_skip
        | (go_big_quiet_want
           first
           | (refine q_load 46 (.tmp 10) rfl g10 0 rfl _ _ FA.out Try.underlying46 rfl (sTl _ _ _ _) ?_
              simp only [Act.put, List.setIfInBounds_toArray, List.set_cons_zero, List.set_cons_succ]
              go_big_quiet_on)
           | (refine q_load 50 (.tmp 12) rfl g12 0 rfl _ _ FB.out Try.underlying50 rfl (sRt' _ _ _ _) ?_
              simp only [Act.put, List.setIfInBounds_toArray, List.set_cons_zero, List.set_cons_succ]
              go_big_quiet_on)
           | (go_big_quiet_op
              go_big_quiet_on)))
      refine wpQuiet_nil ?_
      refine one_ofR 63 rfl [2] (by decide +kernel) (by simp) fun j hj => ?_
      obtain rfl := List.mem_singleton.1 hj
      refine ⟨_, rfl, (by rfl), fun a1 hy K hK => ?_⟩
      have Ca1 : Hid (C a1) := CG.out _ _ C0.out hy
      clear hy
      refine oper_calls 16 _ _ rfl #[.agg (tlC r.1 r.2.1.name r.2.1.gone (Value.slice va0 r.2.1.fs.length vc0)).toArray, .agg (tlC r.1 r.2.1.name r.2.1.gone (Value.slice va1 r.2.1.fs.length vc1)).toArray] (by rw [List.map_toArray]; rfl) (enters Try.func16 (by kernel_rfl) rfl) (fun v w' => v = .bool true ∧ Grow a1 w') ((HK1.out _ (CE.out _ Ca1.out)).mono (by rintro e w' ⟨rfl, h⟩; exact ⟨_, rfl, rfl, h.out⟩)) ?_
      rintro v a2 ⟨rfl, G9⟩
      refine hK _ _ (.inr G9) ?_
      clear hK K
      simp only [Act.put, List.setIfInBounds_toArray, List.set_cons_zero, List.set_cons_succ]
      have Ca2 : Hid (C a2) := CG.out _ _ Ca1.out G9
      clear G9 Ca1
      refine segR 54 [3, 4, 5, 6, 7, 8, 9, 10, 11] rfl (by kernel_rfl) whole_blind CG.out Ca2.out (by decide +kernel) ?_
      change wpQuiet _ _ _ _ (_ :: _ :: _ :: _ :: _ :: _ :: _ :: _ :: _ :: []) _
      repeat (first
        | go_big_quiet_skip
        | (go_big_quiet_want
           first
           | (refine q_load 46 (.tmp 14) rfl g14 0 rfl _ _ FX.out Try.underlying46 rfl (sTl _ _ _ _) ?_
              simp only [Act.put, List.setIfInBounds_toArray, List.set_cons_zero, List.set_cons_succ]
              go_big_quiet_on)
           | (refine q_load 50 (.tmp 16) rfl g16 0 rfl _ _ FY.out Try.underlying50 rfl (sRt' _ _ _ _) ?_
              simp only [Act.put, List.setIfInBounds_toArray, List.set_cons_zero, List.set_cons_succ]
              go_big_quiet_on)
           | (go_big_quiet_op
              go_big_quiet_on)))
      refine wpQuiet_nil ?_
      refine one_ofR 53 rfl [12] (by decide +kernel) (by simp) fun j hj => ?_
      obtain rfl := List.mem_singleton.1 hj
      refine ⟨_, rfl, (by rfl), fun a3 hy K hK => ?_⟩
      have Ca3 : Hid (C a3) := CG.out _ _ Ca2.out hy
      clear hy
      refine oper_calls 16 _ _ rfl #[.agg (tlC tt.1 tt.2.1.name tt.2.1.gone (Value.slice va2 tt.2.1.fs.length vc2)).toArray, .agg (tlC tt.1 tt.2.1.name tt.2.1.gone (Value.slice va3 tt.2.1.fs.length vc3)).toArray] (by rw [List.map_toArray]; rfl) (enters Try.func16 (by kernel_rfl) rfl) (fun v w' => v = .bool true ∧ Grow a3 w') ((HK2.out _ (CE.out _ Ca3.out)).mono (by rintro e w' ⟨rfl, h⟩; exact ⟨_, rfl, rfl, h.out⟩)) ?_
      rintro v a4 ⟨rfl, G9⟩
      refine hK _ _ (.inr G9) ?_
      clear hK K
      simp only [Act.put, List.setIfInBounds_toArray, List.set_cons_zero, List.set_cons_succ]
      have Ca4 : Hid (C a4) := CG.out _ _ Ca3.out G9
      clear G9 Ca3
      refine segR 23 [13, 14, 15, 16, 17, 18, 19, 20, 21, 22, 23, 24, 25, 26, 27, 28, 29, 30, 31, 33, 34, 35, 36, 37, 38, 39, 40, 41, 42, 43] rfl (by kernel_rfl) whole_blind CG.out Ca4.out (by decide +kernel) ?_
      change wpQuiet _ _ _ _ (_ :: _ :: _ :: _ :: _ :: _ :: _ :: _ :: _ :: _ :: _ :: _ :: _ :: _ :: _ :: _ :: _ :: _ :: _ :: _ :: _ :: _ :: _ :: _ :: _ :: _ :: _ :: _ :: _ :: _ :: []) _
      repeat (first
        | go_big_quiet_skip
        | (go_big_quiet_want
           first
           | (refine q_ixe (.tmp 120) (.tmp 121) rfl b off l.length cap k rfl rfl hl1 ?_
              simp only [Act.put, List.setIfInBounds_toArray, List.set_cons_zero, List.set_cons_succ]
              go_big_quiet_on)
           | (refine q_ixe (.tmp 125) (.tmp 126) rfl b off l.length cap k rfl rfl hl1 ?_
              simp only [Act.put, List.setIfInBounds_toArray, List.set_cons_zero, List.set_cons_succ]
              go_big_quiet_on)
           | (refine q_ixe (.tmp 132) (.tmp 133) rfl b off l.length cap k rfl rfl hl1 ?_
              simp only [Act.put, List.setIfInBounds_toArray, List.set_cons_zero, List.set_cons_succ]
              go_big_quiet_on)
           | (refine q_ixe (.tmp 137) (.tmp 138) rfl b off l.length cap k rfl rfl hl1 ?_
              simp only [Act.put, List.setIfInBounds_toArray, List.set_cons_zero, List.set_cons_succ]
              go_big_quiet_on)
           | (refine q_cell 3 (by simp) (.tmp 123) rfl b (off + k * 46 + 2) rfl _ F2.out ?_
              simp only [Act.put, List.setIfInBounds_toArray, List.set_cons_zero, List.set_cons_succ]
              go_big_quiet_on)
           | (refine q_cell 9 (by simp) (.tmp 128) rfl b (off + k * 46 + 1) rfl _ F1.out ?_
              simp only [Act.put, List.setIfInBounds_toArray, List.set_cons_zero, List.set_cons_succ]
              go_big_quiet_on)
           | (refine q_cell 3 (by simp) (.tmp 135) rfl b (off + k * 46 + 2) rfl _ F2.out ?_
              simp only [Act.put, List.setIfInBounds_toArray, List.set_cons_zero, List.set_cons_succ]
              go_big_quiet_on)
           | (refine q_cell 9 (by simp) (.tmp 140) rfl b (off + k * 46 + 1) rfl _ F1.out ?_
              simp only [Act.put, List.setIfInBounds_toArray, List.set_cons_zero, List.set_cons_succ]
              go_big_quiet_on)
           | (go_big_quiet_op
              go_big_quiet_on)))
      refine wpQuiet_nil ?_
      refine one_ofR 22 rfl [32] (by decide +kernel) (by simp) fun j hj => ?_
      obtain rfl := List.mem_singleton.1 hj
      refine ⟨_, rfl, (by rfl), fun a5 hy K hK => ?_⟩
      have Ca5 : Hid (C a5) := CG.out _ _ Ca4.out hy
      clear hy
      refine oper_calls 17 _ _ rfl #[.pointer (some ⟨g, 0, none⟩), .int .i64 y.id, .string y.s] (by rw [List.map_toArray]; rfl) (enters Try.func17 (by kernel_rfl) rfl) (fun v w' => v = .bool hb1 ∧ Grow a5 w') ((HK3.out _ (CE.out _ Ca5.out)).mono (by rintro e w' ⟨rfl, h⟩; exact ⟨_, rfl, rfl, h⟩)) ?_
      rintro v a6 ⟨rfl, G9⟩
      refine hK _ _ (.inr G9) ?_
      clear hK K
      simp only [Act.put, List.setIfInBounds_toArray, List.set_cons_zero, List.set_cons_succ]
      have Ca6 : Hid (C a6) := CG.out _ _ Ca5.out G9
      clear G9 Ca5
      refine one_ofR 21 rfl [44] (by decide +kernel) (by simp) fun j hj => ?_
      obtain rfl := List.mem_singleton.1 hj
      refine ⟨_, rfl, (by rfl), fun a7 hy K hK => ?_⟩
      have Ca7 : Hid (C a7) := CG.out _ _ Ca6.out hy
      clear hy
      refine oper_calls 18 _ _ rfl #[.pointer (some ⟨gr, 0, none⟩), .int .i64 y.id, .string y.s] (by rw [List.map_toArray]; rfl) (enters Try.func18 (by kernel_rfl) rfl) (fun v w' => v = .bool hb1 ∧ Grow a7 w') ((HK4.out _ (CE.out _ Ca7.out)).mono (by rintro e w' ⟨rfl, h⟩; exact ⟨_, rfl, rfl, (by rw [h]; exact Grow.refl _)⟩)) ?_
      rintro v a8 ⟨rfl, G9⟩
      refine hK _ _ (.inr G9) ?_
      clear hK K
      simp only [Act.put, List.setIfInBounds_toArray, List.set_cons_zero, List.set_cons_succ]
      have Ca8 : Hid (C a8) := CG.out _ _ Ca7.out G9
      clear G9 Ca7
      refine segR 4 [45, 46, 47, 48, 49, 50, 51, 52, 53, 54, 56, 57, 58, 59, 60, 61, 62] rfl (by kernel_rfl) whole_blind CG.out Ca8.out (by decide +kernel) ?_
      change wpQuiet _ _ _ _ (_ :: _ :: _ :: _ :: _ :: _ :: _ :: _ :: _ :: _ :: _ :: _ :: _ :: _ :: _ :: _ :: _ :: []) _
      repeat (first
        | go_big_quiet_skip
        | (go_big_quiet_want
           first
           | (refine q_ixe (.tmp 147) (.tmp 148) rfl b off l.length cap k rfl rfl hl1 ?_
              simp only [Act.put, List.setIfInBounds_toArray, List.set_cons_zero, List.set_cons_succ]
              go_big_quiet_on)
           | (refine q_ixe (.tmp 155) (.tmp 156) rfl b off l.length cap k rfl rfl hl1 ?_
              simp only [Act.put, List.setIfInBounds_toArray, List.set_cons_zero, List.set_cons_succ]
              go_big_quiet_on)
           | (refine q_cell 3 (by simp) (.tmp 150) rfl b (off + k * 46 + 2) rfl _ F2.out ?_
              simp only [Act.put, List.setIfInBounds_toArray, List.set_cons_zero, List.set_cons_succ]
              go_big_quiet_on)
           | (refine q_cell 3 (by simp) (.tmp 158) rfl b (off + k * 46 + 2) rfl _ F2.out ?_
              simp only [Act.put, List.setIfInBounds_toArray, List.set_cons_zero, List.set_cons_succ]
              go_big_quiet_on)
           | (go_big_quiet_op
              go_big_quiet_on)))
      refine wpQuiet_nil ?_
      refine one_ofR 3 rfl [55] (by decide +kernel) (by simp) fun j hj => ?_
      obtain rfl := List.mem_singleton.1 hj
      refine ⟨_, rfl, (by rfl), fun a9 hy K hK => ?_⟩
      have Ca9 : Hid (C a9) := CG.out _ _ Ca8.out hy
      clear hy
      refine oper_calls 17 _ _ rfl #[.pointer (some ⟨g, 0, none⟩), .int .i64 y.id, .string fd] (by rw [List.map_toArray]; rfl) (enters Try.func17 (by kernel_rfl) rfl) (fun v w' => v = .bool hb2 ∧ Grow a9 w') ((HK5.out _ (CE.out _ Ca9.out)).mono (by rintro e w' ⟨rfl, h⟩; exact ⟨_, rfl, rfl, h⟩)) ?_
      rintro v b1 ⟨rfl, G9⟩
      refine hK _ _ (.inr G9) ?_
      clear hK K
      simp only [Act.put, List.setIfInBounds_toArray, List.set_cons_zero, List.set_cons_succ]
      have Cb1 : Hid (C b1) := CG.out _ _ Ca9.out G9
      clear G9 Ca9
      refine one_ofR 2 rfl [63] (by decide +kernel) (by simp) fun j hj => ?_
      obtain rfl := List.mem_singleton.1 hj
      refine ⟨_, rfl, (by rfl), fun b2 hy K hK => ?_⟩
      have Cb2 : Hid (C b2) := CG.out _ _ Cb1.out hy
      clear hy
      refine oper_calls 18 _ _ rfl #[.pointer (some ⟨gr, 0, none⟩), .int .i64 y.id, .string fd] (by rw [List.map_toArray]; rfl) (enters Try.func18 (by kernel_rfl) rfl) (fun v w' => v = .bool hb2 ∧ Grow b2 w') ((HK6.out _ (CE.out _ Cb2.out)).mono (by rintro e w' ⟨rfl, h⟩; exact ⟨_, rfl, rfl, (by rw [h]; exact Grow.refl _)⟩)) ?_
      rintro v b3 ⟨rfl, G9⟩
      refine hK _ _ (.inr G9) ?_
      clear hK K
      simp only [Act.put, List.setIfInBounds_toArray, List.set_cons_zero, List.set_cons_succ]
      have Cb3 : Hid (C b3) := CG.out _ _ Cb2.out G9
      clear G9 Cb2
      clear hCp
      have hCq := anyw_p b3
      refine segF 0 [64, 65] rfl (by kernel_rfl) whole_blind (by decide +kernel) ?_
      change wpQuiet _ _ _ _ (_ :: _ :: []) _
      repeat (first
        | go_big_quiet_skip
        | (go_big_quiet_want
           first
           | (go_big_quiet_op
              go_big_quiet_on)))
      refine wpQuiet_nil ?_
      clear hCq
      refine doneR (by kernel_rfl) fun s4 hy => ?_
      have IT8 : Hid (It w.heap.size N w s4 g A1 gr [(g16, 50, (tlC tt.1 tt.2.1.name tt.2.1.gone (Value.slice va3 tt.2.1.fs.length vc3))), (g14, 46, (tlC tt.1 tt.2.1.name tt.2.1.gone (Value.slice va2 tt.2.1.fs.length vc2))), (g12, 50, (tlC r.1 r.2.1.name r.2.1.gone (Value.slice va1 r.2.1.fs.length vc1))), (g10, 46, (tlC r.1 r.2.1.name r.2.1.gone (Value.slice va0 r.2.1.fs.length vc0)))] [((Value.slice va3 tt.2.1.fs.length vc3), tt.2.1.fs), ((Value.slice va1 r.2.1.fs.length vc1), r.2.1.fs), ((Value.slice va0 r.2.1.fs.length vc0), r.2.1.fs)] [((Value.slice va2 tt.2.1.fs.length vc2), tt.2.1.fs)]) := HIW.out s4 ((CE.out _ Cb3.out).trans (hy.mono (CE.out _ Cb3.out).size))
      clear hy HIW HK1 HK2 HK3 HK4 HK5 HK6 FA FB FX FY F1 F2 CE CG C0 Ca2 Ca4 Ca6 Ca8 Cb1 Cb3
      go_wp2
      obtain ⟨m, HM⟩ : ∃ m, Hid (tt.2.1.fs.length = m) := ⟨_, rfl⟩
      have HSP : Hid (Two w.heap.size N w s4 g A1 gr A1 ∧ Blk s4 g14 46 (tlC tt.1 tt.2.1.name tt.2.1.gone (.slice va2 m vc2)) ∧ ∃ xs, s4.ownsRow 0 58 1 (.slice va2 m vc2) m xs) := by
        rw [← HM.out]
        exact ⟨IT8.out.two, IT8.out.blk (g14, 46, (tlC tt.1 tt.2.1.name tt.2.1.gone (Value.slice va2 tt.2.1.fs.length vc2))) (by simp), _, (IT8.out.own ((Value.slice va2 tt.2.1.fs.length vc2), tt.2.1.fs) (by simp)).1⟩
      have HNX : Hid (∀ x, (Value.slice va2 m vc2).ownBlock = some x → N ≤ x) := by rw [← HM.out]; exact (IT8.out.own ((Value.slice va2 tt.2.1.fs.length vc2), tt.2.1.fs) (by simp)).2
      have hm16 : m ≤ 16 := by have := HM.out; omega
      clear IT8
      go_loopw [18] (fun i wr => ∃ q : Nat, q ≤ m ∧ i = .int .i64 (q : Int) ∧ Hid (Two w.heap.size N w wr g A1 gr A1 ∧ Blk wr g14 46 (tlC tt.1 tt.2.1.name tt.2.1.gone (.slice va2 m vc2)) ∧ ∃ xs, wr.ownsRow 0 58 1 (.slice va2 m vc2) m xs)) (fun i _ => m - (intOf i).toNat)
      case atStart => exact ⟨0, by omega, rfl, HSP.out⟩
      case round =>
        clear HSP
        obtain ⟨q, hq, rfl, HL⟩ := hrel
        have a3 : wr.cell? ⟨g14, 3, none⟩ = some (.slice va2 m vc2) := HL.out.2.1.cell 3
        by_cases hqm : q < m
        case pos =>
          have hqm' : (q : Int) < (m : Int) := by omega
          obtain ⟨h1, h2, xs, h3⟩ := HL.out
          obtain ⟨xa, xc, e, hxn, hxv⟩ := row_val h3
          injection e with e1 e2 e3
          subst e1 e3
          obtain ⟨bx, sp, rfl, hbx, hbl, hcm⟩ : ∃ bx sp, va2 = some ⟨bx, 0, none⟩ ∧ Blk wr bx 58 (xs ++ sp) ∧ (xs ++ sp).length = vc2 * 1 ∧ vc2 ≤ maxLen := by
            rcases hxv with ⟨h0, _⟩ | h1
            · omega
            · exact h1
          have HBX : Hid (Blk wr bx 58 (xs ++ sp)) := hbx
          have HXL : Hid ((xs ++ sp).length = vc2 * 1 ∧ vc2 ≤ maxLen ∧ m ≤ vc2 ∧ xs.length = m * 1 ∧ N ≤ bx) := ⟨hbl, hcm, hxn, h3.1, HNX.out bx rfl⟩
          have hlx : q < (xs ++ sp).length := by rw [List.length_append]; have := h3.1; omega
          have hy1 : ¬ ((q : Int) < 0) := by omega
          have hy2 : ¬ ((m : Int) ≤ (q : Int)) := by omega
          clear h1 h2 h3 hxv hbx hbl hcm hxn
          go_wp2_with (refine st_one rfl 9 (.tmp 175) (.const (.string ⟨#[115, 112, 111, 105, 108, 116]⟩)) rfl bx q 58 _ (.string ⟨#[115, 112, 111, 105, 108, 116]⟩) (by first | rfl | simp) rfl rfl rfl hlx HBX.out s9' ?_)
          intro w5 B5 G5
          have HR5 : Hid (Two w.heap.size N w w5 g A1 gr A1 ∧ Blk w5 g14 46 (tlC tt.1 tt.2.1.name tt.2.1.gone (.slice (some ⟨bx, 0, none⟩) m vc2)) ∧ ∃ xs, w5.ownsRow 0 58 1 (.slice (some ⟨bx, 0, none⟩) m vc2) m xs) := by
            obtain ⟨h1, h2, xs', h3⟩ := HL.out
            refine ⟨h1.upd (Upd.of_by G5 (fun x hx => by injection hx with hx; subst hx; exact HXL.out.2.2.2.2)), h2.kept G5 (fun e => tag_ne h3 h2 (by decide) (by injection e with e; subst e; rfl)), _, row_set hqm B5 HXL.out.1 HXL.out.2.1 HXL.out.2.2.1 HXL.out.2.2.2.1⟩
          clear B5 G5 HBX HXL HL a3 hlx
          go_wp2
          go_roundw
          case rel => exact ⟨q + 1, by omega, by go_num, HR5.out⟩
          case measure => simp [intOf]; omega
        have hqm' : ¬ (q : Int) < (m : Int) := by omega
        have HT8 : Hid (Two w.heap.size N w wr g A1 gr A1) := HL.out.1
        have q2w := HQ2.out wr HT8.out.bl
        clear HL HNX
        by_cases hcp : (k : Int) = cp
        · subst hcp
          have K := two_copy w.heap.size N w g gr A1 A1 wr HT8.out
          clear HT8
          go_wp2_with fail
          refine K.mono ?_
          clear K
          rintro e c1 ⟨gn, rfl, H⟩
          have HC1 : Hid (Thr w.heap.size c1.heap.size w c1 g A1 gn A1 gr A1) := H.out
          clear H q2w
          have K := thr_rcopy w.heap.size c1.heap.size w g gn gr A1 A1 A1 c1 HC1.out
          clear HC1
          go_wp2_with fail
          refine K.mono ?_
          clear K
          rintro e c2 ⟨grn, rfl, H⟩
          have HC2 : Hid (Thr w.heap.size c2.heap.size w c2 g A1 gn A1 grn A1) := H.out
          clear H
          have q2w := HQ2.out c2 HC2.out.two.bl
          have K := thr_apply w.heap.size c2.heap.size w g gn grn A1 A1 A1 6 y.id ⟨#[]⟩ _ (entC_en _ _ _) (by decide) c2 HC2.out
          clear HC2
          go_wp2_with fail
          refine K.mono ?_
          clear K
          rintro e c3 ⟨rfl, H⟩
          have K := thr_apply w.heap.size c3.heap.size w g gn grn _ A1 A1 7 1 ⟨#[115, 112, 111, 105, 108, 116]⟩ _ (entC_en _ _ _) (by decide) c3 H.out
          clear H q2w
          go_wp2_with fail
          refine K.mono ?_
          clear K
          rintro e c4 ⟨rfl, H⟩
          have HT9 : Hid (Two w.heap.size c4.heap.size w c4 gn A1 grn A1) := H.out.two
          clear H
          have K := two_all w.heap.size c4.heap.size w gn grn A1 A1 c4 HT9.out
          obtain ⟨n, hn⟩ : ∃ n, A1.length = n := ⟨_, rfl⟩
          have HN : Hid (A1.length = n) := hn
          have hn64 : n ≤ 64 := by have := HT9.out.ok.len; omega
          rw [hn] at K
          clear hn
          go_wp2_with fail
          refine K.mono ?_
          clear K
          rintro e z1 ⟨bo, rfl, H⟩
          have HTW : Hid (Two w.heap.size c4.heap.size w z1 gn A1 grn A1) := HT9.out.below H.out.2
          obtain ⟨S9, R9, _, hR9, _⟩ := HTW.out
          obtain ⟨lv, L, hRM, hstr, hIR⟩ := hR9
          have HRM : Hid (∀ W, Below z1.heap.size z1 W → RM W grn lv L) := fun W hW => hRM.below hW
          have HSTR : Hid (strip L = A1) := hstr
          have HLL : Hid (L.length = n) := by show _ = _; rw [← strip_len, hstr]; exact HN.out
          obtain ⟨la, lc, hlv, hv⟩ := hRM.val
          rw [HLL.out] at hlv hv
          subst hlv
          have c0 : z1.cell? ⟨grn, 0, none⟩ = some (.slice la n lc) := hRM.blk.cell 0
          have HALL : Hid (∀ W, Below z1.heap.size z1 W → ∃ M, AllR c4.heap.size W (.slice (some ⟨bo, 0, none⟩) n n) A1 M) := fun W hW => by
            obtain ⟨M, hM⟩ := H.out.1
            exact ⟨M, hM.below hW⟩
          have HVV : Hid (n = 0 ∨ ∃ bl, la = some ⟨bl, 0, none⟩ ∧ ∀ W, Below z1.heap.size z1 W → ∀ q p, L[q]? = some p → W.rangeAt bl (q * 4) (tlC ((q : Int) + 1) p.1.name p.1.gone p.2)) := by
            rcases hv with h0 | ⟨bl, sp, e, hb, _⟩
            · exact .inl h0
            · exact .inr ⟨bl, e, fun W hW q p hp => rt_rng (hb.below hW hb.lt) hp⟩
          clear H HT9 hRM hstr hIR hv
          go_wp2
          go_loopw [21] (fun i wr => ∃ q : Nat, q ≤ n ∧ i = .int .i64 (q : Int) ∧ Hid (Below z1.heap.size z1 wr)) (fun i _ => n - (intOf i).toNat)
          case atStart => exact ⟨0, by omega, rfl, Below.refl _ _⟩
          case round =>
            obtain ⟨q, hq, rfl, HB⟩ := hrel
            by_cases hqn : q < n
            case neg =>
              have hqn' : ¬ (q : Int) < (n : Int) := by omega
              have HFT : Hid (∃ N, Two w.heap.size N w wr gn A1 grn A1) := ⟨_, HTW.out.below HB.out⟩
              clear HB HTW HRM HALL HVV
              go_wp2
              go_roundw
              case rel => exact ⟨gn, grn, k + 1, A1, rfl, rfl, by omega, by omega, by go_num, HFT.out⟩
              case measure => simp [intOf]; omega
            have hqn' : (q : Int) < (n : Int) := by omega
            obtain ⟨⟨⟨nm, fs, gn2⟩, fv⟩, hp⟩ : ∃ p, L[q]? = some p := ⟨_, List.getElem?_eq_getElem (by rw [HLL.out]; exact hqn)⟩
            have hA : A1[q]? = some ⟨nm, fs, gn2⟩ := by rw [← HSTR.out]; simp [strip, hp]
            obtain ⟨M, hAR⟩ := HALL.out wr HB.out
            obtain ⟨iv, hrng, htold⟩ := hAR.at hA
            obtain ⟨bl, rfl, hrl⟩ := HVV.out.resolve_left (by omega)
            have hfr := (HRM.out wr HB.out).fld _ (List.mem_of_getElem? hp)
            have HTX : Hid (∀ W, Below wr.heap.size wr W → Txs W iv fs ∧ Txs W fv fs) := fun W hW => ⟨(own_txs (n := 0) htold.row).below hW, (Txs.of hfr).below hW⟩
            have hiv : ∃ ja jc, iv = .slice ja fs.length jc := by
              obtain ⟨ja, jc, e, _⟩ := row_val htold.row
              exact ⟨ja, jc, e⟩
            have hfv : ∃ ja jc, fv = .slice ja fs.length jc := by
              obtain ⟨ja, jc, e, _⟩ := row_val hfr
              exact ⟨ja, jc, e⟩
            have hfl : fs.length ≤ 1000 := by
              have := (HTW.out.ok.ok _ (List.mem_of_getElem? hA)).len
              have h2 : fs.length ≤ 16 := this
              omega
            obtain ⟨ja, jc, rfl⟩ := hiv
            obtain ⟨fa, fc, rfl⟩ := hfv
            have HG1 : Hid (∀ W, Below wr.heap.size wr W → W.rangeAt bo (q * 4) (tlC ((q : Int) + 1) nm gn2 (.slice ja fs.length jc))) := fun W hW j v hj => (hW.cell (p := ⟨bo, q * 4 + j, none⟩) (cell_lt (hrng j v hj))).trans (hrng j v hj)
            have HG2 : Hid (∀ W, Below wr.heap.size wr W → W.rangeAt bl (q * 4) (tlC ((q : Int) + 1) nm gn2 (.slice fa fs.length fc))) := fun W hW => hrl W (HB.out.trans (hW.mono HB.out.size)) q _ hp
            have HG0 : Hid (∀ W, Below wr.heap.size wr W → W.cell? ⟨grn, 0, none⟩ = some (.slice (some ⟨bl, 0, none⟩) n lc)) := fun W hW => (HRM.out W (HB.out.trans (hW.mono HB.out.size))).blk.cell 0
            clear hp hA hAR hrng htold hrl hfr
            obtain ⟨C, hC⟩ : ∃ C : World → Prop, C = fun W => Below wr.heap.size wr W := ⟨_, rfl⟩
            have F0 : Hid (∀ W, C W → W.cell? ⟨grn, 0, none⟩ = some (.slice (some ⟨bl, 0, none⟩) n lc)) := fun W hW => by rw [hC] at hW; exact HG0.out W hW
            have F1 : Hid (∀ W, C W → W.rangeAt bo (q * 4) (tlC ((q : Int) + 1) nm gn2 (.slice ja fs.length jc))) := fun W hW => by rw [hC] at hW; exact HG1.out W hW
            have F2 : Hid (∀ W, C W → W.rangeAt bl (q * 4) (tlC ((q : Int) + 1) nm gn2 (.slice fa fs.length fc))) := fun W hW => by rw [hC] at hW; exact HG2.out W hW
            have FT : Hid (∀ W, C W → Txs W (.slice ja fs.length jc) fs ∧ Txs W (.slice fa fs.length fc) fs) := fun W hW => by rw [hC] at hW; exact HTX.out W hW
            have CG : Hid (∀ w w', C w → Grow w w' → C w') := fun W W' h1 h2 => by rw [hC] at h1 ⊢; exact h1.trans (h2.mono h1.size)
            have CE : Hid (∀ W, C W → Below wr.heap.size wr W) := fun W h => by rw [hC] at h; exact h
            have C0 : Hid (C { wr with drawn := wr.drawn + 1 }) := by rw [hC]; exact Below.drew (Below.refl _ _)
            clear hC
            go_wp2_with fail
            refine region_grow [] (by kernel_rfl) ?_
            have hCp : ∀ p : Prop, (∀ W, C W → p) ↔ p := fun p => ⟨fun h => h _ C0.out, fun h _ _ => h⟩
            generalize ({ wr with drawn := wr.drawn + 1 } : World) = y0 at *
            refine segR 2 [0, 1, 2, 3, 4, 5, 6, 7, 8, 9, 10] rfl (by kernel_rfl) whole_blind CG.out C0.out (by decide +kernel) ?_
            change wpQuiet _ _ _ _ (_ :: _ :: _ :: _ :: _ :: _ :: _ :: _ :: _ :: _ :: _ :: []) _
            repeat (first
              | go_big_quiet_skip
              | (go_big_quiet_want
                 first
                 | (refine q_ixt (.tmp 213) (.tmp 214) rfl bo n n q rfl rfl hqn ?_
                    simp only [Act.put, List.setIfInBounds_toArray, List.set_cons_zero, List.set_cons_succ]
                    go_big_quiet_on)
                 | (refine q_ixs (.tmp 220) (.tmp 221) rfl bl n lc q rfl rfl hqn ?_
                    simp only [Act.put, List.setIfInBounds_toArray, List.set_cons_zero, List.set_cons_succ]
                    go_big_quiet_on)
                 | (refine q_load 46 (.tmp 215) rfl bo (q * 4) rfl _ _ F1.out Try.underlying46 rfl (sTl _ _ _ _) ?_
                    simp only [Act.put, List.setIfInBounds_toArray, List.set_cons_zero, List.set_cons_succ]
                    go_big_quiet_on)
                 | (refine q_load 50 (.tmp 222) rfl bl (q * 4) rfl _ _ F2.out Try.underlying50 rfl (sRt' _ _ _ _) ?_
                    simp only [Act.put, List.setIfInBounds_toArray, List.set_cons_zero, List.set_cons_succ]
                    go_big_quiet_on)
                 | (refine q_cell 28 (by simp) (.tmp 219) rfl grn 0 rfl _ F0.out ?_
                    simp only [Act.put, List.setIfInBounds_toArray, List.set_cons_zero, List.set_cons_succ]
                    go_big_quiet_on)
                 | (go_big_quiet_op
                    go_big_quiet_on)))
            refine wpQuiet_nil ?_
            refine one_ofR 1 rfl [11] (by decide +kernel) (by simp) fun j hj => ?_
            obtain rfl := List.mem_singleton.1 hj
            refine ⟨_, rfl, (by rfl), fun y1 hy1 K hK => ?_⟩
            have C1 : Hid (C y1) := CG.out _ _ C0.out hy1
            clear hy1
            have hT1 := FT.out _ C1.out
            have K1 := tables_true ((q : Int) + 1) nm gn2 fs _ _ hfl y1 hT1.1 hT1.2
            refine oper_calls 16 _ _ rfl #[.agg (tlC ((q : Int) + 1) nm gn2 (.slice ja fs.length jc)).toArray, .agg (tlC ((q : Int) + 1) nm gn2 (.slice fa fs.length fc)).toArray] (by rw [List.map_toArray]; rfl) (enters Try.func16 (by kernel_rfl) rfl) (fun v w' => v = .bool true ∧ Grow y1 w') (K1.mono (by rintro e w' ⟨rfl, h⟩; exact ⟨_, rfl, rfl, h.out⟩)) ?_
            clear K1 hT1
            rintro v y2 ⟨rfl, G2⟩
            refine hK _ _ (.inr G2) ?_
            clear hK K
            simp only [Act.put, List.setIfInBounds_toArray, List.set_cons_zero, List.set_cons_succ]
            have C2 : Hid (C y2) := CG.out _ _ C1.out G2
            clear G2 C1 C0 F0 F1 F2 FT hCp
            have hCq := anyw_p y2
            refine segF 0 [12] rfl (by kernel_rfl) whole_blind (by decide +kernel) ?_
            change wpQuiet _ _ _ _ (_ :: []) _
            repeat (first
              | go_big_quiet_skip
              | (go_big_quiet_want
                 first
                 | (go_big_quiet_op
                    go_big_quiet_on)))
            refine wpQuiet_nil ?_
            clear hCq
            refine doneR (by kernel_rfl) fun y9 hy => ?_
            have HBF : Hid (Below z1.heap.size z1 y9) := HB.out.trans (((CE.out _ C2.out).trans (hy.mono (CE.out _ C2.out).size)).mono HB.out.size)
            clear hy HB C2 CE CG
            go_wp2
            go_roundw
            case rel => exact ⟨q + 1, by omega, by go_num, HBF.out⟩
            case measure => simp [intOf]; omega
        · have hcp' : ((k : Int) == cp) = false := beq_eq_false_iff_ne.2 hcp
          clear q2w
          have HT9 : Hid (Two w.heap.size N w wr g A1 gr A1) := HT8.out
          clear HT8
          have K := two_all w.heap.size N w g gr A1 A1 wr HT9.out
          obtain ⟨n, hn⟩ : ∃ n, A1.length = n := ⟨_, rfl⟩
          have HN : Hid (A1.length = n) := hn
          have hn64 : n ≤ 64 := by have := HT9.out.ok.len; omega
          rw [hn] at K
          clear hn
          go_wp2_with fail
          refine K.mono ?_
          clear K
          rintro e z1 ⟨bo, rfl, H⟩
          have HTW : Hid (Two w.heap.size N w z1 g A1 gr A1) := HT9.out.below H.out.2
          obtain ⟨S9, R9, _, hR9, _⟩ := HTW.out
          obtain ⟨lv, L, hRM, hstr, hIR⟩ := hR9
          have HRM : Hid (∀ W, Below z1.heap.size z1 W → RM W gr lv L) := fun W hW => hRM.below hW
          have HSTR : Hid (strip L = A1) := hstr
          have HLL : Hid (L.length = n) := by show _ = _; rw [← strip_len, hstr]; exact HN.out
          obtain ⟨la, lc, hlv, hv⟩ := hRM.val
          rw [HLL.out] at hlv hv
          subst hlv
          have c0 : z1.cell? ⟨gr, 0, none⟩ = some (.slice la n lc) := hRM.blk.cell 0
          have HALL : Hid (∀ W, Below z1.heap.size z1 W → ∃ M, AllR wr.heap.size W (.slice (some ⟨bo, 0, none⟩) n n) A1 M) := fun W hW => by
            obtain ⟨M, hM⟩ := H.out.1
            exact ⟨M, hM.below hW⟩
          have HVV : Hid (n = 0 ∨ ∃ bl, la = some ⟨bl, 0, none⟩ ∧ ∀ W, Below z1.heap.size z1 W → ∀ q p, L[q]? = some p → W.rangeAt bl (q * 4) (tlC ((q : Int) + 1) p.1.name p.1.gone p.2)) := by
            rcases hv with h0 | ⟨bl, sp, e, hb, _⟩
            · exact .inl h0
            · exact .inr ⟨bl, e, fun W hW q p hp => rt_rng (hb.below hW hb.lt) hp⟩
          clear H HT9 hRM hstr hIR hv
          go_wp2
          go_loopw [21] (fun i wr => ∃ q : Nat, q ≤ n ∧ i = .int .i64 (q : Int) ∧ Hid (Below z1.heap.size z1 wr)) (fun i _ => n - (intOf i).toNat)
          case atStart => exact ⟨0, by omega, rfl, Below.refl _ _⟩
          case round =>
            obtain ⟨q, hq, rfl, HB⟩ := hrel
            by_cases hqn : q < n
            case neg =>
              have hqn' : ¬ (q : Int) < (n : Int) := by omega
              have HFT : Hid (∃ N, Two w.heap.size N w wr g A1 gr A1) := ⟨_, HTW.out.below HB.out⟩
              clear HB HTW HRM HALL HVV
              go_wp2
              go_roundw
              case rel => exact ⟨g, gr, k + 1, A1, rfl, rfl, by omega, by omega, by go_num, HFT.out⟩
              case measure => simp [intOf]; omega
            have hqn' : (q : Int) < (n : Int) := by omega
            obtain ⟨⟨⟨nm, fs, gn2⟩, fv⟩, hp⟩ : ∃ p, L[q]? = some p := ⟨_, List.getElem?_eq_getElem (by rw [HLL.out]; exact hqn)⟩
            have hA : A1[q]? = some ⟨nm, fs, gn2⟩ := by rw [← HSTR.out]; simp [strip, hp]
            obtain ⟨M, hAR⟩ := HALL.out wr HB.out
            obtain ⟨iv, hrng, htold⟩ := hAR.at hA
            obtain ⟨bl, rfl, hrl⟩ := HVV.out.resolve_left (by omega)
            have hfr := (HRM.out wr HB.out).fld _ (List.mem_of_getElem? hp)
            have HTX : Hid (∀ W, Below wr.heap.size wr W → Txs W iv fs ∧ Txs W fv fs) := fun W hW => ⟨(own_txs (n := 0) htold.row).below hW, (Txs.of hfr).below hW⟩
            have hiv : ∃ ja jc, iv = .slice ja fs.length jc := by
              obtain ⟨ja, jc, e, _⟩ := row_val htold.row
              exact ⟨ja, jc, e⟩
            have hfv : ∃ ja jc, fv = .slice ja fs.length jc := by
              obtain ⟨ja, jc, e, _⟩ := row_val hfr
              exact ⟨ja, jc, e⟩
            have hfl : fs.length ≤ 1000 := by
              have := (HTW.out.ok.ok _ (List.mem_of_getElem? hA)).len
              have h2 : fs.length ≤ 16 := this
              omega
            obtain ⟨ja, jc, rfl⟩ := hiv
            obtain ⟨fa, fc, rfl⟩ := hfv
            have HG1 : Hid (∀ W, Below wr.heap.size wr W → W.rangeAt bo (q * 4) (tlC ((q : Int) + 1) nm gn2 (.slice ja fs.length jc))) := fun W hW j v hj => (hW.cell (p := ⟨bo, q * 4 + j, none⟩) (cell_lt (hrng j v hj))).trans (hrng j v hj)
            have HG2 : Hid (∀ W, Below wr.heap.size wr W → W.rangeAt bl (q * 4) (tlC ((q : Int) + 1) nm gn2 (.slice fa fs.length fc))) := fun W hW => hrl W (HB.out.trans (hW.mono HB.out.size)) q _ hp
            have HG0 : Hid (∀ W, Below wr.heap.size wr W → W.cell? ⟨gr, 0, none⟩ = some (.slice (some ⟨bl, 0, none⟩) n lc)) := fun W hW => (HRM.out W (HB.out.trans (hW.mono HB.out.size))).blk.cell 0
            clear hp hA hAR hrng htold hrl hfr
            obtain ⟨C, hC⟩ : ∃ C : World → Prop, C = fun W => Below wr.heap.size wr W := ⟨_, rfl⟩
            have F0 : Hid (∀ W, C W → W.cell? ⟨gr, 0, none⟩ = some (.slice (some ⟨bl, 0, none⟩) n lc)) := fun W hW => by rw [hC] at hW; exact HG0.out W hW
            have F1 : Hid (∀ W, C W → W.rangeAt bo (q * 4) (tlC ((q : Int) + 1) nm gn2 (.slice ja fs.length jc))) := fun W hW => by rw [hC] at hW; exact HG1.out W hW
            have F2 : Hid (∀ W, C W → W.rangeAt bl (q * 4) (tlC ((q : Int) + 1) nm gn2 (.slice fa fs.length fc))) := fun W hW => by rw [hC] at hW; exact HG2.out W hW
            have FT : Hid (∀ W, C W → Txs W (.slice ja fs.length jc) fs ∧ Txs W (.slice fa fs.length fc) fs) := fun W hW => by rw [hC] at hW; exact HTX.out W hW
            have CG : Hid (∀ w w', C w → Grow w w' → C w') := fun W W' h1 h2 => by rw [hC] at h1 ⊢; exact h1.trans (h2.mono h1.size)
            have CE : Hid (∀ W, C W → Below wr.heap.size wr W) := fun W h => by rw [hC] at h; exact h
            have C0 : Hid (C { wr with drawn := wr.drawn + 1 }) := by rw [hC]; exact Below.drew (Below.refl _ _)
            clear hC
            go_wp2_with fail
            refine region_grow [] (by kernel_rfl) ?_
            have hCp : ∀ p : Prop, (∀ W, C W → p) ↔ p := fun p => ⟨fun h => h _ C0.out, fun h _ _ => h⟩
            generalize ({ wr with drawn := wr.drawn + 1 } : World) = y0 at *
            refine segR 2 [0, 1, 2, 3, 4, 5, 6, 7, 8, 9, 10] rfl (by kernel_rfl) whole_blind CG.out C0.out (by decide +kernel) ?_
            change wpQuiet _ _ _ _ (_ :: _ :: _ :: _ :: _ :: _ :: _ :: _ :: _ :: _ :: _ :: []) _
            repeat (first
              | go_big_quiet_skip
              | (go_big_quiet_want
                 first
                 | (refine q_ixt (.tmp 213) (.tmp 214) rfl bo n n q rfl rfl hqn ?_
                    simp only [Act.put, List.setIfInBounds_toArray, List.set_cons_zero, List.set_cons_succ]
                    go_big_quiet_on)
                 | (refine q_ixs (.tmp 220) (.tmp 221) rfl bl n lc q rfl rfl hqn ?_
                    simp only [Act.put, List.setIfInBounds_toArray, List.set_cons_zero, List.set_cons_succ]
                    go_big_quiet_on)
                 | (refine q_load 46 (.tmp 215) rfl bo (q * 4) rfl _ _ F1.out Try.underlying46 rfl (sTl _ _ _ _) ?_
                    simp only [Act.put, List.setIfInBounds_toArray, List.set_cons_zero, List.set_cons_succ]
                    go_big_quiet_on)
                 | (refine q_load 50 (.tmp 222) rfl bl (q * 4) rfl _ _ F2.out Try.underlying50 rfl (sRt' _ _ _ _) ?_
                    simp only [Act.put, List.setIfInBounds_toArray, List.set_cons_zero, List.set_cons_succ]
                    go_big_quiet_on)
                 | (refine q_cell 28 (by simp) (.tmp 219) rfl gr 0 rfl _ F0.out ?_
                    simp only [Act.put, List.setIfInBounds_toArray, List.set_cons_zero, List.set_cons_succ]
                    go_big_quiet_on)
                 | (go_big_quiet_op
                    go_big_quiet_on)))
            refine wpQuiet_nil ?_
            refine one_ofR 1 rfl [11] (by decide +kernel) (by simp) fun j hj => ?_
            obtain rfl := List.mem_singleton.1 hj
            refine ⟨_, rfl, (by rfl), fun y1 hy1 K hK => ?_⟩
            have C1 : Hid (C y1) := CG.out _ _ C0.out hy1
            clear hy1
            have hT1 := FT.out _ C1.out
            have K1 := tables_true ((q : Int) + 1) nm gn2 fs _ _ hfl y1 hT1.1 hT1.2
            refine oper_calls 16 _ _ rfl #[.agg (tlC ((q : Int) + 1) nm gn2 (.slice ja fs.length jc)).toArray, .agg (tlC ((q : Int) + 1) nm gn2 (.slice fa fs.length fc)).toArray] (by rw [List.map_toArray]; rfl) (enters Try.func16 (by kernel_rfl) rfl) (fun v w' => v = .bool true ∧ Grow y1 w') (K1.mono (by rintro e w' ⟨rfl, h⟩; exact ⟨_, rfl, rfl, h.out⟩)) ?_
            clear K1 hT1
            rintro v y2 ⟨rfl, G2⟩
            refine hK _ _ (.inr G2) ?_
            clear hK K
            simp only [Act.put, List.setIfInBounds_toArray, List.set_cons_zero, List.set_cons_succ]
            have C2 : Hid (C y2) := CG.out _ _ C1.out G2
            clear G2 C1 C0 F0 F1 F2 FT hCp
            have hCq := anyw_p y2
            refine segF 0 [12] rfl (by kernel_rfl) whole_blind (by decide +kernel) ?_
            change wpQuiet _ _ _ _ (_ :: []) _
            repeat (first
              | go_big_quiet_skip
              | (go_big_quiet_want
                 first
                 | (go_big_quiet_op
                    go_big_quiet_on)))
            refine wpQuiet_nil ?_
            clear hCq
            refine doneR (by kernel_rfl) fun y9 hy => ?_
            have HBF : Hid (Below z1.heap.size z1 y9) := HB.out.trans (((CE.out _ C2.out).trans (hy.mono (CE.out _ C2.out).size)).mono HB.out.size)
            clear hy HB C2 CE CG
            go_wp2
            go_roundw
            case rel => exact ⟨q + 1, by omega, by go_num, HBF.out⟩
            case measure => simp [intOf]; omega
#print axioms plays_walk
end Go.Proofs.Ytbkogaencjmmgaa
