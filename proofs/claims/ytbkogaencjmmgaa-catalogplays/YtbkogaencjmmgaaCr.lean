/-
  CatalogNames' walk.
-/
import Derived.Test.YtbkogaencjmmgaaCn
namespace Go.Proofs.Ytbkogaencjmmgaa
open Go.RowKit Go.MapKept
set_option linter.unusedVariables false
set_option linter.unusedSimpArgs false
/-- No two that are not dropped have one name. -/
def UnA (A : List Tb) : Prop := A.Pairwise (fun t u => t.gone = false → u.gone = false → t.name ≠ u.name)
theorem nam_none {A : List Tb} {s : ByteArray} : ∀ (i : Nat), namF s i A = 0 → ∀ t ∈ A, t.gone = false → t.name ≠ s := by
  induction A with
  | nil => intro i _ t ht; cases ht
  | cons u r ih =>
    intro i h t ht hg e
    unfold namF at h
    by_cases hb : (bq u.name s && !u.gone) = true
    · rw [if_pos hb] at h; omega
    · rw [if_neg hb] at h
      rcases List.mem_cons.1 ht with rfl | ht
      · apply hb
        rw [e, hg]
        simp [bq_iff.2 rfl]
      · exact ih (i + 1) h t ht hg e
theorem un_put {X Y : List Tb} {t t' : Tb} (h : UnA (X ++ t :: Y)) (hn : t'.gone = false → t.gone = false ∧ t'.name = t.name) : UnA (X ++ t' :: Y) := by
  unfold UnA at h ⊢
  rw [List.pairwise_append, List.pairwise_cons] at h ⊢
  obtain ⟨h1, ⟨h2, h3⟩, h4⟩ := h
  refine ⟨h1, ⟨fun u hu g1 g2 => ?_, h3⟩, fun a ha b hb g1 g2 => ?_⟩
  · obtain ⟨e1, e2⟩ := hn g1
    rw [e2]; exact h2 u hu e1 g2
  · rcases List.mem_cons.1 hb with rfl | hb
    · obtain ⟨e1, e2⟩ := hn g2
      rw [e2]; exact h4 a ha t (by simp) g1 e1
    · exact h4 a ha b (by simp [hb]) g1 g2
theorem un_ap {A : List Tb} (h : UnA A) (k id : Int) (s : ByteArray) : UnA (apA A k id s) := by
  unfold apA
  split
  · unfold addA
    split
    · rename_i h5 he
      unfold addE at he
      split at he
      · cases he
      · split at he
        · cases he
        · split at he
          · cases he
          · rename_i h0
            unfold UnA
            rw [List.pairwise_append]
            refine ⟨h, List.pairwise_singleton _ _, fun t ht u hu g1 g2 => ?_⟩
            obtain rfl := List.mem_singleton.1 hu
            have h00 : namF s 0 A = 0 := by have h1 := h0; unfold nam at h1; simpa using h1
            exact nam_none 0 h00 t ht g1
    · exact h
  · split
    · unfold dropA
      split
      · rename_i hl
        have ht : thereB A id = true := by unfold liveB at hl; simp only [Bool.and_eq_true] at hl; exact hl.1
        obtain ⟨X, t, Y, rfl, hX⟩ := tbl_some ht
        rw [updA_at hX]
        exact un_put h (fun e => by cases e)
      · exact h
    · split
      · unfold idxA
        split
        · rename_i he
          have hl : liveB A id = true := by
            unfold idxE at he
            split at he
            · cases he
            · rename_i h7; simpa using h7
          have ht : thereB A id = true := by unfold liveB at hl; simp only [Bool.and_eq_true] at hl; exact hl.1
          obtain ⟨X, t, Y, rfl, hX⟩ := tbl_some ht
          rw [updA_at hX]
          exact un_put h (fun e => ⟨e, rfl⟩)
        · exact h
      · exact h
/-- Each is found by its name. -/
theorem un_find {A : List Tb} (h : UnA A) {k : Nat} {t : Tb} (hk : A[k]? = some t) (hg : t.gone = false) : finR A t.name = ((k : Int) + 1, t, 0) := by
  have hn : nam A t.name ≠ 0 := fun e => nam_none 0 e t (List.mem_of_getElem? hk) hg rfl
  obtain ⟨j, u, e1, e2, e3, e4⟩ := nam_some hn
  have hj : j = k := by
    obtain ⟨hkl, ek⟩ := List.getElem?_eq_some_iff.1 hk
    obtain ⟨hjl, ej⟩ := List.getElem?_eq_some_iff.1 e2
    unfold UnA at h
    rw [List.pairwise_iff_getElem] at h
    rcases Nat.lt_trichotomy j k with hlt | hlt | hlt
    · exact absurd (by rw [ej, ek, e3]) (h j k hjl hkl hlt (by rw [ej]; exact e4) (by rw [ek]; exact hg))
    · exact hlt
    · exact absurd (by rw [ej, ek, e3]) (h k j hkl hjl hlt (by rw [ek]; exact hg) (by rw [ej]; exact e4))
  subst hj
  unfold finR
  rw [e1, Nat.add_sub_cancel, hk]
  simp
theorem alC_at {M : List TV} {k : Nat} {p : TV} (h : M[k]? = some p) (sp : List Value) : ∀ (i : Nat), ∃ X Y, alC i M ++ sp = X ++ (tlC (((i + k : Nat) : Int) + 1) p.1.name p.1.gone p.2 ++ Y) ∧ X.length = k * 4 := by
  intro i
  obtain ⟨e1, e2⟩ := at_split h
  rw [e1, alC_app, e2]
  refine ⟨alC i (M.take k), alC (i + k + 1) (M.drop (k + 1)) ++ sp, ?_, by rw [alC_len, e2]⟩
  simp [alC]
theorem tl_rng {w : World} {b : Nat} {M : List TV} {sp : List Value} (h : Blk w b 46 (alC 0 M ++ sp)) {k : Nat} {p : TV} (hk : M[k]? = some p) : w.rangeAt b (k * 4) (tlC ((k : Int) + 1) p.1.name p.1.gone p.2) := by
  obtain ⟨X, Y, e, hX⟩ := alC_at hk sp 0
  rw [e] at h
  have := h.range
  rw [hX, Nat.zero_add] at this
  exact this
/-- One of all tables, where it lies. -/
theorem AllR.at {B : Nat} {w : World} {bo n : Nat} {A : List Tb} {M : List TV} (h : AllR B w (.slice (some ⟨bo, 0, none⟩) n n) A M) {k : Nat} {t : Tb} (hk : A[k]? = some t) : ∃ iv, w.rangeAt bo (k * 4) (tlC ((k : Int) + 1) t.name t.gone iv) ∧ Told B w t.fs iv := by
  have hm := h.m
  rw [← hm] at hk
  obtain ⟨iv, hp⟩ := tab_at hk
  obtain ⟨a, c, e, _, hv⟩ := row_val h.row
  injection e with e1 e2 e3
  rcases hv with ⟨_, h0, _⟩ | ⟨b, sp, h0, hb, _⟩
  · rw [← e1] at h0; cases h0
  · rw [← e1] at h0
    injection h0 with h0
    injection h0 with h0 _ _
    subst h0
    exact ⟨iv, tl_rng hb hp, h.told _ (List.mem_of_getElem? hp)⟩
theorem AllR.below {B : Nat} {w w' : World} {v : Value} {A : List Tb} {M : List TV} (h : AllR B w v A M) (b : Below w.heap.size w w') : AllR B w' v A M := ⟨own_upd h.row (Upd.of_below Non b) (fun _ _ q => q), h.m, fun p hp => (h.told p hp).below b, h.new⟩
theorem st_all_any (B : Nat) (w0 : World) (g : Nat) (A : List Tb) (w : World) (h : St B w0 w g A) : Calls Try.prog 21 #[.pointer (some ⟨g, 0, none⟩)] w fun e w' => ∃ bo, e = .returned (.slice (some ⟨bo, 0, none⟩) A.length A.length) ∧ Hid ((∃ M, AllR w.heap.size w' (.slice (some ⟨bo, 0, none⟩) A.length A.length) A M) ∧ Below w.heap.size w w') := by
  obtain ⟨S, h1, _⟩ := h
  exact all_any S g A w h1
theorem st_find (B : Nat) (w0 : World) (g : Nat) (A : List Tb) (s : ByteArray) (w : World) (h : St B w0 w g A) : Calls Try.prog 12 #[.pointer (some ⟨g, 0, none⟩), .string s] w fun e w' => ∃ iv, e = .returned (rV (finR A s) iv) ∧ Hid (Told w.heap.size w' (finR A s).2.1.fs iv ∧ Below w.heap.size w w') := by
  obtain ⟨S, h1, _⟩ := h
  exact find_any S g A s w h1
theorem q_ixt {C : World → Prop} {a : Act} {o : Oper} {K : Act → Prop} (x y : Operand) (ho : o.op = .indexAddr 60 x y) (b n c k : Nat) (hx : a.eval x = .slice (some ⟨b, 0, none⟩) n c) (hy : a.eval y = .int .i64 (k : Int)) (hk1 : k < n)
    (hk : K (a.put o.dst (.pointer (some ⟨b, k * 4, none⟩)))) : o.quiet Try.prog a C K :=
  ⟨_, fun w hw => by
    unfold Oper.quietAt execOp
    have h1 : ¬ ((k : Int) < 0) := by omega
    have h2 : ¬ ((n : Int) ≤ (k : Int)) := by omega
    simp only [ho, hx, hy]
    go_simp, hk⟩
set_option maxRecDepth 8000 in
set_option maxHeartbeats 4000000 in
theorem names_walk (a0 : Option Addr) (cap : Nat) (l : List Ent) (w : World) (hs : Scr w a0 l) (hz : ∀ y ∈ l, EntOk y) : Calls Try.prog 4 #[.slice a0 l.length cap] w fun e w' => e = .returned (.bool true) ∧ Hid (Below w.heap.size w w') := by
  have HS : Hid (Scr w a0 l) := hs
  have HZ : Hid (∀ y ∈ l, EntOk y) := hz
  have K := heavy_any a0 cap l w hs hz
  clear hs hz
  go_enter Try.func4, Try.ntmps4
  go_wp2_with fail
  refine K.mono ?_
  clear K
  rintro e w1 ⟨⟨t, rfl⟩, hw⟩
  have hw' := hw.symm
  subst hw'
  clear hw
  cases t with
  | true =>
    have K := known_any w
    go_wp2_with fail
    refine K.mono ?_
    clear K
    rintro e w2 ⟨rfl, H⟩
    go_wp2
    go_ret
    exact ⟨rfl, H.out⟩
  | false =>
    have K := st_new w.heap.size w w (Below.refl _ _) (Nat.le_refl _) (Nat.le_refl _)
    go_wp2_with fail
    refine K.mono ?_
    clear K
    rintro e w2 ⟨g, rfl, H⟩
    have HO : Hid (St w.heap.size w w2 g []) := H.out
    clear H
    go_wp2
    go_loopw [4] (fun i wr => ∃ k : Nat, k ≤ l.length ∧ k ≤ 150 ∧ i = .int .i64 (k : Int) ∧ Hid (∃ A, St w.heap.size w wr g A ∧ UnA A)) (fun i _ => 150 - (intOf i).toNat)
    case atStart => exact ⟨0, by omega, by omega, rfl, [], HO.out, List.Pairwise.nil⟩
    case round =>
      obtain ⟨k, hk, hk4, rfl, HI⟩ := hrel
      obtain ⟨A, hA, hU⟩ := HI.out
      have HA : Hid (St w.heap.size w wr g A ∧ UnA A) := ⟨hA, hU⟩
      clear HO HI hA hU
      by_cases hlt : k < l.length ∧ k < 150
      case pos =>
        obtain ⟨hl1, hl2⟩ := hlt
        have hl1' : (k : Int) < (l.length : Int) := by omega
        have hl2' : (k : Int) < 150 := by omega
        obtain ⟨y, hsk⟩ : ∃ y, l[k]? = some y := ⟨_, List.getElem?_eq_getElem hl1⟩
        obtain ⟨b, off, rfl, hr⟩ := (HS.out.below HA.out.1.bl).at hsk
        have hy := HZ.out y (List.mem_of_getElem? hsk)
        have HR : Hid (wr.rangeAt b (off + k * 46) y.ec) := hr
        have sE : (Try.prog.info? 42).map (·.size) = some y.ec.length := by rw [hy.en.len]; kernel_rfl
        have K := st_apply w.heap.size w g A y.k y.id y.s y.ec hy.en (by have := hy.sz; omega) wr HA.out.1
        have HUN : Hid (UnA (apA A y.k y.id y.s)) := un_ap HA.out.2 _ _ _
        have hx1 : ¬ ((k : Int) < 0) := by omega
        have hx2 : ¬ ((l.length : Int) ≤ (k : Int)) := by omega
        clear hsk hr HA hy
        go_wp2_with (refine ld_w rfl 42 (.tmp 28) rfl b (off + k * 46) (by first | rfl | simp) y.ec _ HR.out Try.underlying42 rfl sE ?_)
        refine K.mono ?_
        clear K sE
        rintro e w3 ⟨rfl, H⟩
        go_wp2
        go_roundw
        case rel => exact ⟨k + 1, by omega, by omega, by go_num, _, H.out, HUN.out⟩
        case measure => simp [intOf]; omega
      have K := st_all_any w.heap.size w g A wr HA.out.1
      obtain ⟨n, hn⟩ : ∃ n, A.length = n := ⟨_, rfl⟩
      have HN : Hid (A.length = n) := hn
      have hn64 : n ≤ 64 := by have := HA.out.1.ok.len; omega
      rw [hn] at K
      clear hn
      by_cases hl1 : k < l.length
      · have hl1' : (k : Int) < (l.length : Int) := by omega
        have hl2' : ¬ (k : Int) < 150 := by omega
        go_wp2_with fail
        refine K.mono ?_
        clear K
        rintro e w3 ⟨bo, rfl, H⟩
        have H0 : Hid (St w.heap.size w w3 g A ∧ ∃ M, AllR wr.heap.size w3 (.slice (some ⟨bo, 0, none⟩) n n) A M) := ⟨HA.out.1.below H.out.2, H.out.1⟩
        have HU : Hid (UnA A) := HA.out.2
        generalize wr.heap.size = B0 at *
        clear H HA
        go_wp2
        go_loopw [6] (fun i wr => ∃ q : Nat, q ≤ n ∧ i = .int .i64 (q : Int) ∧ Hid (St w.heap.size w wr g A ∧ ∃ M, AllR B0 wr (.slice (some ⟨bo, 0, none⟩) n n) A M)) (fun i _ => n - (intOf i).toNat)
        case atStart => exact ⟨0, by omega, rfl, H0.out⟩
        case round =>
          clear H0
          obtain ⟨q, hq, rfl, HL⟩ := hrel
          by_cases hq1 : q < n
          case neg =>
            have hq1' : ¬ (q : Int) < (n : Int) := by omega
            have HB : Hid (Below w.heap.size w wr) := HL.out.1.bl
            have K := known_any wr
            clear HL
            go_wp2_with fail
            refine K.mono ?_
            clear K
            rintro e w4 ⟨rfl, H⟩
            have HF : Hid (Below w.heap.size w w4) := HB.out.trans (H.out.mono HB.out.size)
            clear H HB
            go_wp2
            go_ret
            exact ⟨rfl, HF.out⟩
          have hq1' : (q : Int) < (n : Int) := by omega
          obtain ⟨t, ht⟩ : ∃ t, A[q]? = some t := ⟨_, List.getElem?_eq_getElem (by rw [HN.out]; exact hq1)⟩
          obtain ⟨hst, M, hM⟩ := HL.out
          obtain ⟨iv, hr, htd⟩ := hM.at ht
          have HOK : Hid (t.gone = true → t.fs = []) := (hst.ok.ok t (List.mem_of_getElem? ht)).gone
          obtain ⟨nm, fs, gn⟩ := t
          have hiv : ∃ ia ic, iv = .slice ia fs.length ic := by
            obtain ⟨ia, ic, e, _⟩ := row_val htd.row
            exact ⟨ia, ic, e⟩
          obtain ⟨ia, ic, rfl⟩ := hiv
          have HRW : Hid (∀ W, Below wr.heap.size wr W → W.rangeAt bo (q * 4) (tlC ((q : Int) + 1) nm gn (.slice ia fs.length ic))) := fun W hb j v hj => (hb.cell (p := ⟨bo, q * 4 + j, none⟩) (cell_lt (hr j v hj))).trans (hr j v hj)
          have a0 : wr.cell? ⟨bo, q * 4, none⟩ = some (.int .i64 ((q : Int) + 1)) := hr 0 _ rfl
          have a1 : wr.cell? ⟨bo, q * 4 + 1, none⟩ = some (.string nm) := hr 1 _ rfl
          have a2 : wr.cell? ⟨bo, q * 4 + 2, none⟩ = some (.bool gn) := hr 2 _ rfl
          have a3 : wr.cell? ⟨bo, q * 4 + 3, none⟩ = some (.slice ia fs.length ic) := hr 3 _ rfl
          have K := st_find w.heap.size w g A nm wr hst
          have HFI : Hid (gn = false → finR A nm = ((q : Int) + 1, ⟨nm, fs, gn⟩, 0)) := fun e => un_find HU.out ht e
          obtain ⟨r, hrr⟩ : ∃ r, finR A nm = r := ⟨_, rfl⟩
          rw [hrr] at K HFI
          have w1e : wrap64 ((q : Int) + 1) = (q : Int) + 1 := wrap_small (n := q + 1) (by omega) (by omega)
          have hy1 : ¬ ((q : Int) < 0) := by omega
          have hy2 : ¬ ((n : Int) ≤ (q : Int)) := by omega
          clear hst hM htd hr ht hrr
          cases gn with
          | true =>
            obtain rfl : fs = [] := HOK.out rfl
            go_wp2_with fail
            refine K.mono ?_
            clear K
            rintro e w4 ⟨iv2, rfl, H⟩
            have H4 : Hid (Below wr.heap.size wr w4) := H.out.2
            have hiv2 : ∃ ja jn jc, iv2 = .slice ja jn jc := by
              obtain ⟨ja, jc, e, _⟩ := row_val H.out.1.row
              exact ⟨ja, _, jc, e⟩
            obtain ⟨ja, jn, jc, rfl⟩ := hiv2
            clear H HFI a0 a1 a2 a3
            simp only [rV]
            go_wp2_with (refine al_zero rfl 46 rfl _ zTl ?_)
            intro g7 w5 l5 B5 G5
            have H5 : Hid (Below wr.heap.size wr w5) := below_none H4.out H4.out.size G5
            have H75 : Hid (Blk w5 g7 46 (tlC 0 ⟨#[]⟩ false (.slice none 0 0))) := B5
            have HL7 : Hid (wr.heap.size ≤ g7) := Nat.le_trans H4.out.size l5
            clear B5 G5 H4 l5
            go_wp2_with (refine st_all rfl 46 (.tmp 7) (.tmp 71) rfl g7 46 _ (tlC r.1 r.2.1.name r.2.1.gone (.slice ja jn jc)) rfl rfl H75.out rfl (sTl _ _ _ _) (tl_one rfl) ?_)
            intro w6 B6 G6
            have H6 : Hid (Below wr.heap.size wr w6) := H5.out.grown G6 H5.out.size (fun r e => by injection e with e; subst e; exact HL7.out)
            have H76 : Hid (Blk w6 g7 46 (tlC r.1 r.2.1.name r.2.1.gone (.slice ja jn jc))) := B6
            clear B6 G6 H5 H75
            obtain ⟨C, hC⟩ : ∃ C : World → Prop, C = fun W => Below w6.heap.size w6 W := ⟨_, rfl⟩
            have CO : Hid (∀ W, C W → Below w6.heap.size w6 W) := fun W g => by rw [hC] at g; exact g
            have C0 : Hid (C { w6 with drawn := w6.drawn + 1 }) := by rw [hC]; exact Below.drew (Below.refl _ _)
            have CW : Hid (∀ W, C W → Below wr.heap.size wr W) := fun W g => H6.out.trans ((CO.out W g).mono H6.out.size)
            have F0 : Hid (∀ W, C W → W.cell? ⟨bo, q * 4, none⟩ = some (.int .i64 ((q : Int) + 1))) := fun W g => HRW.out W (CW.out W g) 0 _ rfl
            have F2 : Hid (∀ W, C W → W.cell? ⟨bo, q * 4 + 2, none⟩ = some (.bool true)) := fun W g => HRW.out W (CW.out W g) 2 _ rfl
            have F7 : Hid (∀ W, C W → W.cell? ⟨g7, 0, none⟩ = some (.int .i64 (r.1))) := fun W g => (H76.out.below (CO.out W g) H76.out.lt).cell 0
            clear hC
            go_wp2_with fail
            have hCp : ∀ p : Prop, (∀ W, C W → p) ↔ p := fun p => ⟨fun h => h _ C0.out, fun h _ _ => h⟩
            refine wp_region_quiet (C := C) (by kernel_rfl) (by kernel_rfl) C0.out ?_
            change wpQuiet _ _ _ _ (_ :: _ :: _ :: _ :: _ :: _ :: _ :: _ :: _ :: _ :: _ :: _ :: _ :: _ :: _ :: _ :: _ :: _ :: _ :: _ :: []) _
            repeat (first
              | go_big_quiet_skip
              | (go_big_quiet_want
                 first
                 | (refine q_ixt (.tmp 73) (.tmp 74) rfl bo n n q rfl rfl hq1 ?_
                    simp only [Act.put, List.setIfInBounds_toArray, List.set_cons_zero, List.set_cons_succ]
                    go_big_quiet_on)
                 | (refine q_ixt (.tmp 85) (.tmp 86) rfl bo n n q rfl rfl hq1 ?_
                    simp only [Act.put, List.setIfInBounds_toArray, List.set_cons_zero, List.set_cons_succ]
                    go_big_quiet_on)
                 | (refine q_cell 4 (by simp) (.tmp 76) rfl bo (q * 4 + 2) rfl _ F2.out ?_
                    simp only [Act.put, List.setIfInBounds_toArray, List.set_cons_zero, List.set_cons_succ]
                    go_big_quiet_on)
                 | (refine q_cell 3 (by simp) (.tmp 83) rfl g7 0 rfl _ F7.out ?_
                    simp only [Act.put, List.setIfInBounds_toArray, List.set_cons_zero, List.set_cons_succ]
                    go_big_quiet_on)
                 | (refine q_cell 3 (by simp) (.tmp 88) rfl bo (q * 4) rfl _ F0.out ?_
                    simp only [Act.put, List.setIfInBounds_toArray, List.set_cons_zero, List.set_cons_succ]
                    go_big_quiet_on)
                 | (go_big_quiet_op
                    go_big_quiet_on)))
            refine wpQuiet_nil ?_
            intro w9 h9
            have HN9 : Hid (St w.heap.size w w9 g A ∧ ∃ M, AllR B0 w9 (.slice (some ⟨bo, 0, none⟩) n n) A M) := by
              obtain ⟨s1, M, s2⟩ := HL.out
              exact ⟨s1.below (CW.out _ h9), M, s2.below (CW.out _ h9)⟩
            clear h9 hCp C0 F0 F2 F7 CO CW HL H6 H76
            go_wp2
            go_roundw
            case rel => exact ⟨q + 1, by omega, by go_num, HN9.out⟩
            case measure => simp [intOf]; omega
          | false =>
            obtain rfl : r = ((q : Int) + 1, ⟨nm, fs, false⟩, 0) := HFI.out rfl
            go_wp2_with fail
            refine K.mono ?_
            clear K
            rintro e w4 ⟨iv2, rfl, H⟩
            have H4 : Hid (Below wr.heap.size wr w4) := H.out.2
            have hiv2 : ∃ ja jn jc, iv2 = .slice ja jn jc := by
              obtain ⟨ja, jc, e, _⟩ := row_val H.out.1.row
              exact ⟨ja, _, jc, e⟩
            obtain ⟨ja, jn, jc, rfl⟩ := hiv2
            clear H HFI a0 a1 a2 a3
            simp only [rV]
            go_wp2_with (refine al_zero rfl 46 rfl _ zTl ?_)
            intro g7 w5 l5 B5 G5
            have H5 : Hid (Below wr.heap.size wr w5) := below_none H4.out H4.out.size G5
            have H75 : Hid (Blk w5 g7 46 (tlC 0 ⟨#[]⟩ false (.slice none 0 0))) := B5
            have HL7 : Hid (wr.heap.size ≤ g7) := Nat.le_trans H4.out.size l5
            clear B5 G5 H4 l5
            go_wp2_with (refine st_all rfl 46 (.tmp 7) (.tmp 71) rfl g7 46 _ (tlC ((q : Int) + 1) nm false (.slice ja jn jc)) rfl rfl H75.out rfl (sTl _ _ _ _) (tl_one rfl) ?_)
            intro w6 B6 G6
            have H6 : Hid (Below wr.heap.size wr w6) := H5.out.grown G6 H5.out.size (fun r e => by injection e with e; subst e; exact HL7.out)
            have H76 : Hid (Blk w6 g7 46 (tlC ((q : Int) + 1) nm false (.slice ja jn jc))) := B6
            clear B6 G6 H5 H75
            obtain ⟨C, hC⟩ : ∃ C : World → Prop, C = fun W => Below w6.heap.size w6 W := ⟨_, rfl⟩
            have CO : Hid (∀ W, C W → Below w6.heap.size w6 W) := fun W g => by rw [hC] at g; exact g
            have C0 : Hid (C { w6 with drawn := w6.drawn + 1 }) := by rw [hC]; exact Below.drew (Below.refl _ _)
            have CW : Hid (∀ W, C W → Below wr.heap.size wr W) := fun W g => H6.out.trans ((CO.out W g).mono H6.out.size)
            have F0 : Hid (∀ W, C W → W.cell? ⟨bo, q * 4, none⟩ = some (.int .i64 ((q : Int) + 1))) := fun W g => HRW.out W (CW.out W g) 0 _ rfl
            have F2 : Hid (∀ W, C W → W.cell? ⟨bo, q * 4 + 2, none⟩ = some (.bool false)) := fun W g => HRW.out W (CW.out W g) 2 _ rfl
            have F7 : Hid (∀ W, C W → W.cell? ⟨g7, 0, none⟩ = some (.int .i64 (((q : Int) + 1)))) := fun W g => (H76.out.below (CO.out W g) H76.out.lt).cell 0
            clear hC
            go_wp2_with fail
            have hCp : ∀ p : Prop, (∀ W, C W → p) ↔ p := fun p => ⟨fun h => h _ C0.out, fun h _ _ => h⟩
            refine wp_region_quiet (C := C) (by kernel_rfl) (by kernel_rfl) C0.out ?_
            change wpQuiet _ _ _ _ (_ :: _ :: _ :: _ :: _ :: _ :: _ :: _ :: _ :: _ :: _ :: _ :: _ :: _ :: _ :: _ :: _ :: _ :: _ :: _ :: []) _
            repeat (first
              | go_big_quiet_skip
              | (go_big_quiet_want
                 first
                 | (refine q_ixt (.tmp 73) (.tmp 74) rfl bo n n q rfl rfl hq1 ?_
                    simp only [Act.put, List.setIfInBounds_toArray, List.set_cons_zero, List.set_cons_succ]
                    go_big_quiet_on)
                 | (refine q_ixt (.tmp 85) (.tmp 86) rfl bo n n q rfl rfl hq1 ?_
                    simp only [Act.put, List.setIfInBounds_toArray, List.set_cons_zero, List.set_cons_succ]
                    go_big_quiet_on)
                 | (refine q_cell 4 (by simp) (.tmp 76) rfl bo (q * 4 + 2) rfl _ F2.out ?_
                    simp only [Act.put, List.setIfInBounds_toArray, List.set_cons_zero, List.set_cons_succ]
                    go_big_quiet_on)
                 | (refine q_cell 3 (by simp) (.tmp 83) rfl g7 0 rfl _ F7.out ?_
                    simp only [Act.put, List.setIfInBounds_toArray, List.set_cons_zero, List.set_cons_succ]
                    go_big_quiet_on)
                 | (refine q_cell 3 (by simp) (.tmp 88) rfl bo (q * 4) rfl _ F0.out ?_
                    simp only [Act.put, List.setIfInBounds_toArray, List.set_cons_zero, List.set_cons_succ]
                    go_big_quiet_on)
                 | (go_big_quiet_op
                    go_big_quiet_on)))
            refine wpQuiet_nil ?_
            intro w9 h9
            have HN9 : Hid (St w.heap.size w w9 g A ∧ ∃ M, AllR B0 w9 (.slice (some ⟨bo, 0, none⟩) n n) A M) := by
              obtain ⟨s1, M, s2⟩ := HL.out
              exact ⟨s1.below (CW.out _ h9), M, s2.below (CW.out _ h9)⟩
            clear h9 hCp C0 F0 F2 F7 CO CW HL H6 H76
            go_wp2
            go_roundw
            case rel => exact ⟨q + 1, by omega, by go_num, HN9.out⟩
            case measure => simp [intOf]; omega
      · have hl1' : ¬ (k : Int) < (l.length : Int) := by omega
        go_wp2_with fail
        refine K.mono ?_
        clear K
        rintro e w3 ⟨bo, rfl, H⟩
        have H0 : Hid (St w.heap.size w w3 g A ∧ ∃ M, AllR wr.heap.size w3 (.slice (some ⟨bo, 0, none⟩) n n) A M) := ⟨HA.out.1.below H.out.2, H.out.1⟩
        have HU : Hid (UnA A) := HA.out.2
        generalize wr.heap.size = B0 at *
        clear H HA
        go_wp2
        go_loopw [6] (fun i wr => ∃ q : Nat, q ≤ n ∧ i = .int .i64 (q : Int) ∧ Hid (St w.heap.size w wr g A ∧ ∃ M, AllR B0 wr (.slice (some ⟨bo, 0, none⟩) n n) A M)) (fun i _ => n - (intOf i).toNat)
        case atStart => exact ⟨0, by omega, rfl, H0.out⟩
        case round =>
          clear H0
          obtain ⟨q, hq, rfl, HL⟩ := hrel
          by_cases hq1 : q < n
          case neg =>
            have hq1' : ¬ (q : Int) < (n : Int) := by omega
            have HB : Hid (Below w.heap.size w wr) := HL.out.1.bl
            have K := known_any wr
            clear HL
            go_wp2_with fail
            refine K.mono ?_
            clear K
            rintro e w4 ⟨rfl, H⟩
            have HF : Hid (Below w.heap.size w w4) := HB.out.trans (H.out.mono HB.out.size)
            clear H HB
            go_wp2
            go_ret
            exact ⟨rfl, HF.out⟩
          have hq1' : (q : Int) < (n : Int) := by omega
          obtain ⟨t, ht⟩ : ∃ t, A[q]? = some t := ⟨_, List.getElem?_eq_getElem (by rw [HN.out]; exact hq1)⟩
          obtain ⟨hst, M, hM⟩ := HL.out
          obtain ⟨iv, hr, htd⟩ := hM.at ht
          have HOK : Hid (t.gone = true → t.fs = []) := (hst.ok.ok t (List.mem_of_getElem? ht)).gone
          obtain ⟨nm, fs, gn⟩ := t
          have hiv : ∃ ia ic, iv = .slice ia fs.length ic := by
            obtain ⟨ia, ic, e, _⟩ := row_val htd.row
            exact ⟨ia, ic, e⟩
          obtain ⟨ia, ic, rfl⟩ := hiv
          have HRW : Hid (∀ W, Below wr.heap.size wr W → W.rangeAt bo (q * 4) (tlC ((q : Int) + 1) nm gn (.slice ia fs.length ic))) := fun W hb j v hj => (hb.cell (p := ⟨bo, q * 4 + j, none⟩) (cell_lt (hr j v hj))).trans (hr j v hj)
          have a0 : wr.cell? ⟨bo, q * 4, none⟩ = some (.int .i64 ((q : Int) + 1)) := hr 0 _ rfl
          have a1 : wr.cell? ⟨bo, q * 4 + 1, none⟩ = some (.string nm) := hr 1 _ rfl
          have a2 : wr.cell? ⟨bo, q * 4 + 2, none⟩ = some (.bool gn) := hr 2 _ rfl
          have a3 : wr.cell? ⟨bo, q * 4 + 3, none⟩ = some (.slice ia fs.length ic) := hr 3 _ rfl
          have K := st_find w.heap.size w g A nm wr hst
          have HFI : Hid (gn = false → finR A nm = ((q : Int) + 1, ⟨nm, fs, gn⟩, 0)) := fun e => un_find HU.out ht e
          obtain ⟨r, hrr⟩ : ∃ r, finR A nm = r := ⟨_, rfl⟩
          rw [hrr] at K HFI
          have w1e : wrap64 ((q : Int) + 1) = (q : Int) + 1 := wrap_small (n := q + 1) (by omega) (by omega)
          have hy1 : ¬ ((q : Int) < 0) := by omega
          have hy2 : ¬ ((n : Int) ≤ (q : Int)) := by omega
          clear hst hM htd hr ht hrr
          cases gn with
          | true =>
            obtain rfl : fs = [] := HOK.out rfl
            go_wp2_with fail
            refine K.mono ?_
            clear K
            rintro e w4 ⟨iv2, rfl, H⟩
            have H4 : Hid (Below wr.heap.size wr w4) := H.out.2
            have hiv2 : ∃ ja jn jc, iv2 = .slice ja jn jc := by
              obtain ⟨ja, jc, e, _⟩ := row_val H.out.1.row
              exact ⟨ja, _, jc, e⟩
            obtain ⟨ja, jn, jc, rfl⟩ := hiv2
            clear H HFI a0 a1 a2 a3
            simp only [rV]
            go_wp2_with (refine al_zero rfl 46 rfl _ zTl ?_)
            intro g7 w5 l5 B5 G5
            have H5 : Hid (Below wr.heap.size wr w5) := below_none H4.out H4.out.size G5
            have H75 : Hid (Blk w5 g7 46 (tlC 0 ⟨#[]⟩ false (.slice none 0 0))) := B5
            have HL7 : Hid (wr.heap.size ≤ g7) := Nat.le_trans H4.out.size l5
            clear B5 G5 H4 l5
            go_wp2_with (refine st_all rfl 46 (.tmp 7) (.tmp 71) rfl g7 46 _ (tlC r.1 r.2.1.name r.2.1.gone (.slice ja jn jc)) rfl rfl H75.out rfl (sTl _ _ _ _) (tl_one rfl) ?_)
            intro w6 B6 G6
            have H6 : Hid (Below wr.heap.size wr w6) := H5.out.grown G6 H5.out.size (fun r e => by injection e with e; subst e; exact HL7.out)
            have H76 : Hid (Blk w6 g7 46 (tlC r.1 r.2.1.name r.2.1.gone (.slice ja jn jc))) := B6
            clear B6 G6 H5 H75
            obtain ⟨C, hC⟩ : ∃ C : World → Prop, C = fun W => Below w6.heap.size w6 W := ⟨_, rfl⟩
            have CO : Hid (∀ W, C W → Below w6.heap.size w6 W) := fun W g => by rw [hC] at g; exact g
            have C0 : Hid (C { w6 with drawn := w6.drawn + 1 }) := by rw [hC]; exact Below.drew (Below.refl _ _)
            have CW : Hid (∀ W, C W → Below wr.heap.size wr W) := fun W g => H6.out.trans ((CO.out W g).mono H6.out.size)
            have F0 : Hid (∀ W, C W → W.cell? ⟨bo, q * 4, none⟩ = some (.int .i64 ((q : Int) + 1))) := fun W g => HRW.out W (CW.out W g) 0 _ rfl
            have F2 : Hid (∀ W, C W → W.cell? ⟨bo, q * 4 + 2, none⟩ = some (.bool true)) := fun W g => HRW.out W (CW.out W g) 2 _ rfl
            have F7 : Hid (∀ W, C W → W.cell? ⟨g7, 0, none⟩ = some (.int .i64 (r.1))) := fun W g => (H76.out.below (CO.out W g) H76.out.lt).cell 0
            clear hC
            go_wp2_with fail
            have hCp : ∀ p : Prop, (∀ W, C W → p) ↔ p := fun p => ⟨fun h => h _ C0.out, fun h _ _ => h⟩
            refine wp_region_quiet (C := C) (by kernel_rfl) (by kernel_rfl) C0.out ?_
            change wpQuiet _ _ _ _ (_ :: _ :: _ :: _ :: _ :: _ :: _ :: _ :: _ :: _ :: _ :: _ :: _ :: _ :: _ :: _ :: _ :: _ :: _ :: _ :: []) _
            repeat (first
              | go_big_quiet_skip
              | (go_big_quiet_want
                 first
                 | (refine q_ixt (.tmp 73) (.tmp 74) rfl bo n n q rfl rfl hq1 ?_
                    simp only [Act.put, List.setIfInBounds_toArray, List.set_cons_zero, List.set_cons_succ]
                    go_big_quiet_on)
                 | (refine q_ixt (.tmp 85) (.tmp 86) rfl bo n n q rfl rfl hq1 ?_
                    simp only [Act.put, List.setIfInBounds_toArray, List.set_cons_zero, List.set_cons_succ]
                    go_big_quiet_on)
                 | (refine q_cell 4 (by simp) (.tmp 76) rfl bo (q * 4 + 2) rfl _ F2.out ?_
                    simp only [Act.put, List.setIfInBounds_toArray, List.set_cons_zero, List.set_cons_succ]
                    go_big_quiet_on)
                 | (refine q_cell 3 (by simp) (.tmp 83) rfl g7 0 rfl _ F7.out ?_
                    simp only [Act.put, List.setIfInBounds_toArray, List.set_cons_zero, List.set_cons_succ]
                    go_big_quiet_on)
                 | (refine q_cell 3 (by simp) (.tmp 88) rfl bo (q * 4) rfl _ F0.out ?_
                    simp only [Act.put, List.setIfInBounds_toArray, List.set_cons_zero, List.set_cons_succ]
                    go_big_quiet_on)
                 | (go_big_quiet_op
                    go_big_quiet_on)))
            refine wpQuiet_nil ?_
            intro w9 h9
            have HN9 : Hid (St w.heap.size w w9 g A ∧ ∃ M, AllR B0 w9 (.slice (some ⟨bo, 0, none⟩) n n) A M) := by
              obtain ⟨s1, M, s2⟩ := HL.out
              exact ⟨s1.below (CW.out _ h9), M, s2.below (CW.out _ h9)⟩
            clear h9 hCp C0 F0 F2 F7 CO CW HL H6 H76
            go_wp2
            go_roundw
            case rel => exact ⟨q + 1, by omega, by go_num, HN9.out⟩
            case measure => simp [intOf]; omega
          | false =>
            obtain rfl : r = ((q : Int) + 1, ⟨nm, fs, false⟩, 0) := HFI.out rfl
            go_wp2_with fail
            refine K.mono ?_
            clear K
            rintro e w4 ⟨iv2, rfl, H⟩
            have H4 : Hid (Below wr.heap.size wr w4) := H.out.2
            have hiv2 : ∃ ja jn jc, iv2 = .slice ja jn jc := by
              obtain ⟨ja, jc, e, _⟩ := row_val H.out.1.row
              exact ⟨ja, _, jc, e⟩
            obtain ⟨ja, jn, jc, rfl⟩ := hiv2
            clear H HFI a0 a1 a2 a3
            simp only [rV]
            go_wp2_with (refine al_zero rfl 46 rfl _ zTl ?_)
            intro g7 w5 l5 B5 G5
            have H5 : Hid (Below wr.heap.size wr w5) := below_none H4.out H4.out.size G5
            have H75 : Hid (Blk w5 g7 46 (tlC 0 ⟨#[]⟩ false (.slice none 0 0))) := B5
            have HL7 : Hid (wr.heap.size ≤ g7) := Nat.le_trans H4.out.size l5
            clear B5 G5 H4 l5
            go_wp2_with (refine st_all rfl 46 (.tmp 7) (.tmp 71) rfl g7 46 _ (tlC ((q : Int) + 1) nm false (.slice ja jn jc)) rfl rfl H75.out rfl (sTl _ _ _ _) (tl_one rfl) ?_)
            intro w6 B6 G6
            have H6 : Hid (Below wr.heap.size wr w6) := H5.out.grown G6 H5.out.size (fun r e => by injection e with e; subst e; exact HL7.out)
            have H76 : Hid (Blk w6 g7 46 (tlC ((q : Int) + 1) nm false (.slice ja jn jc))) := B6
            clear B6 G6 H5 H75
            obtain ⟨C, hC⟩ : ∃ C : World → Prop, C = fun W => Below w6.heap.size w6 W := ⟨_, rfl⟩
            have CO : Hid (∀ W, C W → Below w6.heap.size w6 W) := fun W g => by rw [hC] at g; exact g
            have C0 : Hid (C { w6 with drawn := w6.drawn + 1 }) := by rw [hC]; exact Below.drew (Below.refl _ _)
            have CW : Hid (∀ W, C W → Below wr.heap.size wr W) := fun W g => H6.out.trans ((CO.out W g).mono H6.out.size)
            have F0 : Hid (∀ W, C W → W.cell? ⟨bo, q * 4, none⟩ = some (.int .i64 ((q : Int) + 1))) := fun W g => HRW.out W (CW.out W g) 0 _ rfl
            have F2 : Hid (∀ W, C W → W.cell? ⟨bo, q * 4 + 2, none⟩ = some (.bool false)) := fun W g => HRW.out W (CW.out W g) 2 _ rfl
            have F7 : Hid (∀ W, C W → W.cell? ⟨g7, 0, none⟩ = some (.int .i64 (((q : Int) + 1)))) := fun W g => (H76.out.below (CO.out W g) H76.out.lt).cell 0
            clear hC
            go_wp2_with fail
            have hCp : ∀ p : Prop, (∀ W, C W → p) ↔ p := fun p => ⟨fun h => h _ C0.out, fun h _ _ => h⟩
            refine wp_region_quiet (C := C) (by kernel_rfl) (by kernel_rfl) C0.out ?_
            change wpQuiet _ _ _ _ (_ :: _ :: _ :: _ :: _ :: _ :: _ :: _ :: _ :: _ :: _ :: _ :: _ :: _ :: _ :: _ :: _ :: _ :: _ :: _ :: []) _
            repeat (first
              | go_big_quiet_skip
              | (go_big_quiet_want
                 first
                 | (refine q_ixt (.tmp 73) (.tmp 74) rfl bo n n q rfl rfl hq1 ?_
                    simp only [Act.put, List.setIfInBounds_toArray, List.set_cons_zero, List.set_cons_succ]
                    go_big_quiet_on)
                 | (refine q_ixt (.tmp 85) (.tmp 86) rfl bo n n q rfl rfl hq1 ?_
                    simp only [Act.put, List.setIfInBounds_toArray, List.set_cons_zero, List.set_cons_succ]
                    go_big_quiet_on)
                 | (refine q_cell 4 (by simp) (.tmp 76) rfl bo (q * 4 + 2) rfl _ F2.out ?_
                    simp only [Act.put, List.setIfInBounds_toArray, List.set_cons_zero, List.set_cons_succ]
                    go_big_quiet_on)
                 | (refine q_cell 3 (by simp) (.tmp 83) rfl g7 0 rfl _ F7.out ?_
                    simp only [Act.put, List.setIfInBounds_toArray, List.set_cons_zero, List.set_cons_succ]
                    go_big_quiet_on)
                 | (refine q_cell 3 (by simp) (.tmp 88) rfl bo (q * 4) rfl _ F0.out ?_
                    simp only [Act.put, List.setIfInBounds_toArray, List.set_cons_zero, List.set_cons_succ]
                    go_big_quiet_on)
                 | (go_big_quiet_op
                    go_big_quiet_on)))
            refine wpQuiet_nil ?_
            intro w9 h9
            have HN9 : Hid (St w.heap.size w w9 g A ∧ ∃ M, AllR B0 w9 (.slice (some ⟨bo, 0, none⟩) n n) A M) := by
              obtain ⟨s1, M, s2⟩ := HL.out
              exact ⟨s1.below (CW.out _ h9), M, s2.below (CW.out _ h9)⟩
            clear h9 hCp C0 F0 F2 F7 CO CW HL H6 H76
            go_wp2
            go_roundw
            case rel => exact ⟨q + 1, by omega, by go_num, HN9.out⟩
            case measure => simp [intOf]; omega
#print axioms names_walk
end Go.Proofs.Ytbkogaencjmmgaa
