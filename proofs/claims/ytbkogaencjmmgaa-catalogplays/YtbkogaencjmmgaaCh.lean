/-
  index: a table has one index more.
-/
import Derived.Test.YtbkogaencjmmgaaCg
namespace Go.Proofs.Ytbkogaencjmmgaa
open Go.RowKit Go.MapKept
set_option linter.unusedVariables false
set_option linter.unusedSimpArgs false
theorem wl_put {ops : Array Oper} {rest : List Oper} {o : Oper} {a : Act} {w : World} {Q : Exit → Act → World → Prop} (hg : o.guard = none) (m x v : Operand) (ho : o.op = .mapUpdate 68 m x v) (b : Nat) (H : Int → ByteArray → Prop) (es : Array MapEntry) (clock : Nat) (hM : MapB w b H es clock) (hm : a.eval m = .map (some b)) (id : Int) (s : ByteArray) (hx : a.eval x = pk id s) (hv : a.eval v = .agg #[]) (hi : I64 id) (hs : s.size ≤ maxLen) (hn : ¬ H id s)
    (h : ∀ w' es' clock', MapB w' b (fun i t => H i t ∨ (i = id ∧ t = s)) es' clock' → w.grownBy w' (some b) → wpList Try.prog ops Q rest (a.put o.dst undef) w') : wpList Try.prog ops Q (o :: rest) a w := by
  refine wpList_plain hg fun K hK => ?_
  obtain ⟨w', es', clock', hr, h1, h2⟩ := hM.update id s hi hs hn
  unfold Oper.wp
  simp [execOp, ho, hm, hx, hv, hr, Result.andThen]
  exact hK _ _ (h w' es' clock' h1 h2)
theorem has_idx {A B : List Tb} {t : Tb} {id : Int} (h : (A.length : Int) = id - 1) (s : ByteArray) (i : Int) (u : ByteArray) : (hasB (A ++ t :: B) i u = true ∨ (i = id ∧ u = s)) ↔ hasB (A ++ ⟨t.name, t.fs ++ [s], t.gone⟩ :: B) i u = true := by
  have e0 : hasB (A ++ ⟨t.name, t.fs ++ [s], t.gone⟩ :: B) i u = if i = id then (t.fs ++ [s]).any (fun x => bq x u) else hasB (A ++ t :: B) i u := by
    unfold hasB
    rw [tbl_put (t := t) i]
    by_cases e : i = id
    · rw [if_pos e, if_pos (by omega)]
    · rw [if_neg e, if_neg (by omega)]
  rw [e0]
  by_cases e : i = id
  · rw [if_pos e]
    subst e
    rw [any_mem, has_mid h, if_pos rfl, any_mem, List.mem_append, List.mem_singleton]
    constructor
    · rintro (h1 | ⟨_, h1⟩)
      · exact .inl h1
      · exact .inr h1
    · rintro (h1 | h1)
      · exact .inl h1
      · exact .inr ⟨rfl, h1⟩
  · rw [if_neg e]
    exact ⟨fun q => q.elim (fun r => r) (fun r => absurd r.1 e), .inl⟩
theorem gone_idx {A B : List Tb} {t : Tb} (s : ByteArray) (i : Int) : goneB (A ++ ⟨t.name, t.fs ++ [s], t.gone⟩ :: B) i = goneB (A ++ t :: B) i := by
  unfold goneB
  rw [tbl_put (t := t) i]
  by_cases e : i = (A.length : Int) + 1
  · rw [if_pos e, e, tbl_at (by omega)]
  · rw [if_neg e]
set_option maxRecDepth 8000 in
set_option maxHeartbeats 2000000 in
theorem idx_in (S : Nat → Prop) (g : Nat) (tv mv : Value) (dm : Nat) (L : List TV) (id : Int) (s : ByteArray) (hs : s.size ≤ 281474976710656) (w : World) (h : CM w g tv dm mv L) (hI : In S g tv mv L) :
    Calls Try.prog 24 #[.pointer (some ⟨g, 0, none⟩), .int .i64 id, .string s] w fun e w' => e = .returned (.int .i64 (idxE (strip L) id s)) ∧ Hid (Cat w' (Nw S w w') g (idxA (strip L) id s) ∧ Upd S w w') := by
  have K := live_any g tv mv dm L id w h
  have HE : Hid (∀ (x : Int) (W : World), idxE (strip L) id s = x → x ≠ 0 → Below w.heap.size w W → Hid (Cat W (Nw S w W) g (idxA (strip L) id s) ∧ Upd S w W)) := fun x W hx h0 hb => by
    refine ⟨?_, Upd.of_below _ hb⟩
    unfold idxA
    rw [if_neg (by rw [hx]; exact h0)]
    exact Cat.mono ⟨tv, dm, mv, L, h.below hb, rfl, hI⟩ (fun x hx => .inl hx)
  cases hlv : liveB (strip L) id with
  | false =>
    have e7 : idxE (strip L) id s = 7 := by unfold idxE; rw [if_pos hlv]
    have HF := HE.out 7 w e7 (by decide) (Below.refl _ _)
    rw [e7]
    rw [hlv] at K
    clear h hI HE
    go_enter Try.func24, Try.ntmps24
    go_wp2_with (go_at_call 34; refine K.mono ?_; clear K; rintro e w' ⟨rfl, rfl⟩)
    go_ret
    exact ⟨rfl, HF.out⟩
  | true =>
    have hth : thereB (strip L) id = true := by have := hlv; unfold liveB at this; simp only [Bool.and_eq_true] at this; exact this.1
    rw [hlv] at K
    simp only [thereB, Bool.and_eq_true, decide_eq_true_eq, strip_len] at hth
    obtain ⟨k, hk⟩ : ∃ k : Nat, id = (k : Int) + 1 := ⟨(id - 1).toNat, by omega⟩
    subst hk
    obtain ⟨p, hp⟩ : ∃ p, L[k]? = some p := ⟨_, List.getElem?_eq_getElem (by omega)⟩
    obtain ⟨X, Y, rfl, hX⟩ : ∃ X Y, L = X ++ p :: Y ∧ X.length = k := ⟨_, _, (at_split hp).1, (at_split hp).2⟩
    obtain ⟨⟨nm, fs, gn⟩, fv⟩ := p
    have hst : strip (X ++ (⟨nm, fs, gn⟩, fv) :: Y) = strip X ++ ⟨nm, fs, gn⟩ :: strip Y := by simp [strip]
    have hXs : ((strip X).length : Int) = ((k : Int) + 1) - 1 := by rw [strip_len, hX]; omega
    have hmem : ((⟨nm, fs, gn⟩, fv) : TV) ∈ X ++ (⟨nm, fs, gn⟩, fv) :: Y := by simp
    have hfn : fieldsN (strip (X ++ (⟨nm, fs, gn⟩, fv) :: Y)) ((k : Int) + 1) = fs.length := by
      unfold fieldsN
      rw [hst, tbl_at hXs]
    have hhas : hasB (strip (X ++ (⟨nm, fs, gn⟩, fv) :: Y)) ((k : Int) + 1) s = fs.any (fun x => bq x s) := by rw [hst, has_mid hXs, if_pos rfl]
    have hfv : ∃ fa fc, fv = .slice fa fs.length fc := by
      obtain ⟨fa, fc, e, _, e2⟩ := row_val (h.fld _ hmem)
      exact ⟨fa, fc, e⟩
    obtain ⟨fa, fc, rfl⟩ := hfv
    have HM : Hid (CM w g tv dm mv (X ++ (⟨nm, fs, gn⟩, .slice fa fs.length fc) :: Y)) := h
    have HI : Hid (In S g tv mv (X ++ (⟨nm, fs, gn⟩, .slice fa fs.length fc) :: Y)) := hI
    obtain ⟨n, hn⟩ : ∃ n, (X ++ ((⟨nm, fs, gn⟩, .slice fa fs.length fc) : TV) :: Y).length = n := ⟨_, rfl⟩
    have HN : Hid ((X ++ ((⟨nm, fs, gn⟩, .slice fa fs.length fc) : TV) :: Y).length = n) := hn
    have hkn : k < n := by rw [← hn]; simp; omega
    have hn64 : n ≤ 64 := by have := h.ok.len; rw [strip_len, hn] at this; exact this
    obtain ⟨a, c, rfl, hnc, hrv⟩ := row_val h.row
    obtain ⟨b, sp, rfl, hbb, hbl, hcm⟩ : ∃ b sp, a = some ⟨b, 0, none⟩ ∧ Blk w b 87 (tbs (X ++ (⟨nm, fs, gn⟩, .slice fa fs.length fc) :: Y) ++ sp) ∧ (tbs (X ++ (⟨nm, fs, gn⟩, .slice fa fs.length fc) :: Y) ++ sp).length = c * 2 ∧ c ≤ maxLen := by
      rcases hrv with ⟨h0, _⟩ | h1
      · rw [hn] at h0; omega
      · exact h1
    clear hrv
    have HBB : Hid (Blk w b 87 (tbs X ++ (.string nm :: .slice fa fs.length fc :: (tbs Y ++ sp)))) := tb_blk hbb
    have HCL : Hid ((tbs (X ++ (⟨nm, fs, gn⟩, .slice fa fs.length fc) :: Y) ++ sp).length = c * 2 ∧ c ≤ maxLen ∧ n ≤ c) := ⟨hbl, hcm, by rw [← hn]; exact hnc⟩
    have HX : Hid (X.length = k) := hX
    have HXS : Hid (((strip X).length : Int) = ((k : Int) + 1) - 1) := hXs
    have c0 : w.cell? ⟨g, 0, none⟩ = some (.slice (some ⟨b, 0, none⟩) n c) := by rw [← hn]; exact h.blk.cell 0
    have hok := h.ok.ok ⟨nm, fs, gn⟩ (by simp [strip])
    have HOK : Hid (OkT ⟨nm, fs, gn⟩) := hok
    have w1 : wrap64 ((k : Int) + 1 - 1) = (k : Int) := wrap_small (n := k) (by omega) (by omega)
    have hx1 : ¬ ((k : Int) < 0) := by omega
    have hx2 : ¬ ((n : Int) ≤ (k : Int)) := by omega
    have hfl := hok.len
    obtain ⟨m, hm⟩ : ∃ m, fs.length = m := ⟨_, rfl⟩
    have HFM : Hid (fs.length = m) := hm
    have hm16 : m ≤ 16 := by rw [← hm]; exact hfl
    have KN := isName_any s w
    have hgt : ∀ x : Int, idxE (strip (X ++ (⟨nm, fs, gn⟩, .slice fa fs.length fc) :: Y)) ((k : Int) + 1) s = x → x = (if nameB s = false then 3 else if fs.any (fun x => bq x s) = true then 8 else if 16 ≤ m then 17 else 0) := fun x hx => by
      rw [← hx]
      unfold idxE
      rw [if_neg (by rw [hlv]; decide), hhas, hfn, hm]
    have hEV := hgt _ rfl
    clear hgt hm
    have HGN : Hid (gn = false) := by
      have := hlv
      unfold liveB goneB at this
      rw [hst, tbl_at hXs] at this
      simp only [Bool.and_eq_true, Bool.not_eq_true'] at this
      exact this.2
    clear h hI hbb hbl hcm hX hXs hp hlv hth hn hnc hst hhas hfn hfl hok
    cases hnm : nameB s with
    | false =>
      have e3 : idxE (strip (X ++ (⟨nm, fs, gn⟩, .slice fa fs.length fc) :: Y)) ((k : Int) + 1) s = 3 := by rw [hEV, if_pos hnm]
      have HF := HE.out 3 w e3 (by decide) (Below.refl _ _)
      rw [e3]
      rw [hnm] at KN
      clear HE HM HI HBB HCL HX
      go_enter Try.func24, Try.ntmps24
      go_wp2_with (first | (go_at_call 34; refine K.mono ?_; clear K; rintro e w' ⟨rfl, hw⟩; have hw' := hw.symm; subst hw'; clear hw) | (go_at_call 32; refine KN.mono ?_; clear KN; rintro e w' ⟨rfl, hw⟩; have hw' := hw.symm; subst hw'; clear hw))
      go_ret
      exact ⟨rfl, HF.out⟩
    | true =>
      rw [hnm] at KN
      have hs40 : s.size ≤ 40 := by
        have := hnm
        simp only [nameB, Bool.and_eq_true, decide_eq_true_eq] at this
        exact this.2
      have KH := has_any g (.slice (some ⟨b, 0, none⟩) (X ++ ((⟨nm, fs, gn⟩, .slice fa fs.length fc) : TV) :: Y).length c) mv dm _ ((k : Int) + 1) s (i64_small (by omega) (by omega)) (by unfold maxLen; omega) w HM.out
      have hh : hasB (strip (X ++ ((⟨nm, fs, gn⟩, .slice fa fs.length fc) : TV) :: Y)) ((k : Int) + 1) s = fs.any (fun x => bq x s) := by
        have e : strip (X ++ ((⟨nm, fs, gn⟩, .slice fa fs.length fc) : TV) :: Y) = strip X ++ ⟨nm, fs, gn⟩ :: strip Y := by simp [strip]
        rw [e, has_mid HXS.out, if_pos rfl]
      rw [hh] at KH
      rw [if_neg (by rw [hnm]; decide)] at hEV
      clear hnm
      cases hhs : fs.any (fun x => bq x s) with
      | true =>
        have e8 : idxE (strip (X ++ (⟨nm, fs, gn⟩, .slice fa fs.length fc) :: Y)) ((k : Int) + 1) s = 8 := by rw [hEV, if_pos hhs]
        have HF := fun W hb => HE.out 8 W e8 (by decide) hb
        rw [e8]
        rw [hhs] at KH
        clear HE HM HI HBB HCL HX hh
        go_enter Try.func24, Try.ntmps24
        go_wp2_with (first | (go_at_call 34; refine K.mono ?_; clear K; rintro e w' ⟨rfl, hw⟩; have hw' := hw.symm; subst hw'; clear hw) | (go_at_call 32; refine KN.mono ?_; clear KN; rintro e w' ⟨rfl, hw⟩; have hw' := hw.symm; subst hw'; clear hw) | (go_at_call 17; refine KH.mono ?_; clear KH; rintro e w2 ⟨rfl, hb2⟩))
        go_ret
        exact ⟨rfl, (HF _ hb2).out⟩
      | false =>
        rw [hhs] at KH hEV hh
        rw [if_neg (by decide)] at hEV
        by_cases h16 : 16 ≤ m
        · have h16' : (m : Int) ≥ 16 := by omega
          have e17 : idxE (strip (X ++ (⟨nm, fs, gn⟩, .slice fa fs.length fc) :: Y)) ((k : Int) + 1) s = 17 := by rw [hEV, if_pos h16]
          have HF : Hid (∀ W, Below w.heap.size w W → _) := fun W hb => HE.out 17 W e17 (by decide) hb
          have HBX : Hid (∀ W, Below w.heap.size w W → W.cell? ⟨b, k * 2 + 1, none⟩ = some (.slice fa m fc)) := fun W hb => by
            have := (HBB.out.below hb HBB.out.lt).cell (k * 2 + 1)
            rw [this, ← HX.out, ← tbs_len, List.getElem?_append_right (by omega), Nat.add_sub_cancel_left, ← HFM.out]
            rfl
          rw [e17]
          clear HE HM HI HBB HCL HX hh e17 hEV
          go_enter Try.func24, Try.ntmps24
          go_wp2_with (first | (go_at_call 34; refine K.mono ?_; clear K; rintro e w' ⟨rfl, hw⟩; have hw' := hw.symm; subst hw'; clear hw) | (go_at_call 32; refine KN.mono ?_; clear KN; rintro e w' ⟨rfl, hw⟩; have hw' := hw.symm; subst hw'; clear hw) | (go_at_call 17; refine KH.mono ?_; clear KH; rintro e w2 ⟨rfl, hb2⟩; have cfx := HBX.out _ hb2))
          go_ret
          exact ⟨rfl, (HF.out _ hb2).out⟩
        have h16' : ¬ (m : Int) ≥ 16 := by omega
        have e0 : idxE (strip (X ++ (⟨nm, fs, gn⟩, .slice fa fs.length fc) :: Y)) ((k : Int) + 1) s = 0 := by rw [hEV, if_neg h16]
        have HQ : Hid (idxA (strip (X ++ (⟨nm, fs, gn⟩, .slice fa fs.length fc) :: Y)) ((k : Int) + 1) s = strip X ++ ⟨nm, fs ++ [s], gn⟩ :: strip Y) := by
          show _ = _
          unfold idxA
          rw [if_pos e0]
          have e : strip (X ++ ((⟨nm, fs, gn⟩, .slice fa fs.length fc) : TV) :: Y) = strip X ++ ⟨nm, fs, gn⟩ :: strip Y := by simp [strip]
          rw [e, updA_at HXS.out]
        rw [e0]
        have HNH : Hid (¬ hasB (strip (X ++ ((⟨nm, fs, gn⟩, .slice fa fs.length fc) : TV) :: Y)) ((k : Int) + 1) s = true) := by
          show ¬ _
          rw [hh]; decide
        clear HE e0 hEV hh hhs
        go_enter Try.func24, Try.ntmps24
        go_wp2_with (first | (go_at_call 34; refine K.mono ?_; clear K; rintro e w' ⟨rfl, hw⟩; have hw' := hw.symm; subst hw'; clear hw) | (go_at_call 32; refine KN.mono ?_; clear KN; rintro e w' ⟨rfl, hw⟩; have hw' := hw.symm; subst hw'; clear hw))
        refine KH.mono ?_
        clear KH
        rintro e w2 ⟨rfl, hb2⟩
        have HB2 : Hid (Below w.heap.size w w2) := hb2
        have HM2 : Hid (CM w2 g (.slice (some ⟨b, 0, none⟩) (X ++ ((⟨nm, fs, gn⟩, .slice fa fs.length fc) : TV) :: Y).length c) dm mv (X ++ ((⟨nm, fs, gn⟩, .slice fa fs.length fc) : TV) :: Y)) := HM.out.below hb2
        have HG2 : Hid (Blk w2 g 70 [.slice (some ⟨b, 0, none⟩) n c, .int .u64 (dm : Int), mv]) := by have := HM2.out.blk; rw [HN.out] at this; exact this
        have HBB2 : Hid (Blk w2 b 87 (tbs X ++ (.string nm :: .slice fa m fc :: (tbs Y ++ sp)))) := by have := HBB.out.below hb2 HBB.out.lt; rw [HFM.out] at this; exact this
        have cfx : w2.cell? ⟨b, k * 2 + 1, none⟩ = some (.slice fa m fc) := by
          have := HBB2.out.cell (k * 2 + 1)
          rw [this, ← HX.out, ← tbs_len, List.getElem?_append_right (by omega), Nat.add_sub_cancel_left]
          rfl
        have cmx : w2.cell? ⟨g, 2, none⟩ = some mv := HG2.out.cell 2
        have hgb : g ≠ b := fun e => tag_ne HM.out.row HM.out.blk (by decide) (by rw [e]; rfl)
        have HMW : Hid (CM w g (.slice (some ⟨b, 0, none⟩) (X ++ ((⟨nm, fs, gn⟩, .slice fa fs.length fc) : TV) :: Y).length c) dm mv (X ++ ((⟨nm, fs, gn⟩, .slice fa fs.length fc) : TV) :: Y)) := HM.out
        clear hb2 c0 HBB HM
        obtain ⟨mu, HMU⟩ : ∃ mu, Hid (mu = mv) := ⟨mv, rfl⟩
        rcases HM2.out.map with ⟨rfl, hno⟩ | ⟨bm, es, clock, rfl, hMB⟩
        · have HNO : Hid (∀ i t, ¬ hasB (strip (X ++ ((⟨nm, fs, gn⟩, .slice fa fs.length fc) : TV) :: Y)) i t = true) := hno
          clear hno
          have hmq := fun W => run_eql_map_nil (P := Try.prog) W 68 _ _ none Try.underlying68
          have hmm := @run_makeMap Try.prog
          go_wp2_with (first | (go_at_call 33; fail) | (refine st_one rfl 68 (.tmp 43) (.tmp 41) rfl g 2 70 _ (.map (some w2.heap.size)) rfl rfl rfl rfl (by show 2 < 3; decide) (HG2.out.alloc _) s68 ?_))
          intro w3 B3 G3
          have hsz3 : w2.heap.size < w3.heap.size := by have := G3.size; simp at this; omega
          have HMB3 : Hid (MapB w3 w2.heap.size (fun i t => hasB (strip (X ++ ((⟨nm, fs, gn⟩, .slice fa fs.length fc) : TV) :: Y)) i t = true) #[] 0) := by
            have := (MapB.made w2).upd (Upd.of_by G3 (S := fun x => x = g) (fun x hx => (Option.some.inj hx).symm)) (fun e => by have := HG2.out.lt; omega)
            exact this.congr (fun i t => ⟨False.elim, fun q => HNO.out i t q⟩)
          have HG3 : Hid (Blk w3 g 70 [.slice (some ⟨b, 0, none⟩) n c, .int .u64 (dm : Int), .map (some w2.heap.size)]) := B3
          have HBB3 : Hid (Blk w3 b 87 (tbs X ++ (.string nm :: .slice fa m fc :: (tbs Y ++ sp)))) := (HBB2.out.alloc _).kept G3 (fun e => hgb (Option.some.inj e).symm)
          have HF3 : Hid (w3.ownsRow 0 9 1 (.slice fa m fc) m (sts fs)) := by
            have h1 := HM2.out.fld ((⟨nm, fs, gn⟩, .slice fa fs.length fc) : TV) hmem
            have h2 : (w2.alloc (.map #[] 0)).ownsRow 0 9 1 (.slice fa m fc) m (sts fs) := by rw [← HFM.out]; exact h1.alloc _
            exact h2.kept G3 (.inr (fun e => tag_ne h1 HM2.out.blk (by decide) (by rw [← HFM.out] at e; exact e)))
          have HU3 : Hid (Upd (fun x => x = g) w2 w3) := by
            have u1 : Upd (fun x => x = g) w2 (w2.alloc (.map #[] 0)) := Upd.of_by (World.grownBy_alloc w2 _ none) (fun x hx => by cases hx)
            exact u1.trans (Upd.of_by G3 (S := fun x => x = g) (fun x hx => (Option.some.inj hx).symm)) (fun x hx _ => hx)
          have HBM : Hid (w2.heap.size < w3.heap.size ∧ (mu = .map (some w2.heap.size) ∨ w.heap.size ≤ w2.heap.size)) := ⟨hsz3, .inr HB2.out.size⟩
          have hes : Hid (∃ es clock, MapB w3 w2.heap.size (fun i t => hasB (strip (X ++ ((⟨nm, fs, gn⟩, .slice fa fs.length fc) : TV) :: Y)) i t = true) es clock) := ⟨_, _, HMB3.out⟩
          clear B3 G3 hsz3 HG2 HBB2 cfx cmx HMB3 HNO
          generalize w2.heap.size = bm at *
          obtain ⟨es, clock, hMB⟩ := hes.out
          have HMB3 : Hid (MapB w3 bm (fun i t => hasB (strip (X ++ ((⟨nm, fs, gn⟩, .slice fa fs.length fc) : TV) :: Y)) i t = true) es clock) := hMB
          clear hMB hes
          have K3 := sclone_any s hs w3
          go_wp2_with fail
          refine K3.mono ?_
          clear K3
          rintro e w4 ⟨rfl, hb4⟩
          have HMB4 : Hid (MapB w4 bm (fun i t => hasB (strip (X ++ ((⟨nm, fs, gn⟩, .slice fa fs.length fc) : TV) :: Y)) i t = true) es clock) := HMB3.out.upd (Upd.of_below Non hb4) (fun q => q)
          have HG4 : Hid (Blk w4 g 70 [.slice (some ⟨b, 0, none⟩) n c, .int .u64 (dm : Int), .map (some bm)]) := HG3.out.below hb4 HG3.out.lt
          have HBB4 : Hid (Blk w4 b 87 (tbs X ++ (.string nm :: .slice fa m fc :: (tbs Y ++ sp)))) := HBB3.out.below hb4 HBB3.out.lt
          have HF4 : Hid (w4.ownsRow 0 9 1 (.slice fa m fc) m (sts fs)) := own_upd HF3.out (Upd.of_below Non hb4) (fun _ _ q => q)
          have HU4 : Hid (Upd (fun x => x = g) w2 w4) := HU3.out.trans (Upd.of_below Non hb4) (fun x q => q.elim)
          have HBM4 : Hid (bm < w4.heap.size) := Nat.lt_of_lt_of_le HBM.out.1 hb4.size
          have c24 : w4.cell? ⟨g, 2, none⟩ = some (.map (some bm)) := HG4.out.cell 2
          clear hb4 HMB3 HG3 HBB3 HF3 HU3
          go_wp2_with (refine wl_put rfl (.tmp 49) (.tmp 52) (.tmp 53) rfl bm _ es clock HMB4.out rfl ((k : Int) + 1) s rfl rfl (i64_small (by omega) (by omega)) (by unfold maxLen; omega) HNH.out ?_)
          intro w5 es5 clock5 hM5 hG5
          have hnb : bm ≠ b := fun e => by
            have h1 := HMB4.out.blk
            have h2 : w4.heap[b]? = _ := HBB4.out
            rw [e, h2] at h1; cases h1
          have hng : bm ≠ g := fun e => by
            have h1 := HMB4.out.blk
            have h2 : w4.heap[g]? = _ := HG4.out
            rw [e, h2] at h1; cases h1
          have HM5 : Hid (MapB w5 bm (fun i t => hasB (strip X ++ ⟨nm, fs ++ [s], gn⟩ :: strip Y) i t = true) es5 clock5) := hM5.congr (fun i t => by
            have e : strip (X ++ ((⟨nm, fs, gn⟩, .slice fa fs.length fc) : TV) :: Y) = strip X ++ ⟨nm, fs, gn⟩ :: strip Y := by simp [strip]
            rw [e]
            exact has_idx (t := ⟨nm, fs, gn⟩) HXS.out s i t)
          have HG5 : Hid (Blk w5 g 70 [.slice (some ⟨b, 0, none⟩) n c, .int .u64 (dm : Int), .map (some bm)]) := HG4.out.kept hG5 (fun e => hng (Option.some.inj e).symm)
          have HBB5 : Hid (Blk w5 b 87 (tbs X ++ (.string nm :: .slice fa m fc :: (tbs Y ++ sp)))) := HBB4.out.kept hG5 (fun e => hnb (Option.some.inj e).symm)
          have HF5 : Hid (w5.ownsRow 0 9 1 (.slice fa m fc) m (sts fs)) := HF4.out.kept hG5 (.inr (fun e => by
            obtain ⟨cs, h1⟩ := row_tag HF4.out e
            have h2 := HMB4.out.blk
            rw [h1] at h2; cases h2))
          have HU5 : Hid (Upd (fun x => x = g ∨ x = bm) w2 w5) := (HU4.out.mono (S' := fun x => x = g ∨ x = bm) (fun x hx _ => .inl hx)).trans (Upd.of_by hG5 (S := fun x => x = bm) (fun x hx => (Option.some.inj hx).symm)) (fun x hx _ => .inr hx)
          have HBM5 : Hid (bm < w5.heap.size) := Nat.lt_of_lt_of_le HBM4.out hG5.size
          have c25 : w5.cell? ⟨b, k * 2 + 1, none⟩ = some (.slice fa m fc) := by
            have := HBB5.out.cell (k * 2 + 1)
            rw [this, ← HX.out, ← tbs_len, List.getElem?_append_right (by omega), Nat.add_sub_cancel_left]
            rfl
          clear hM5 hG5 HMB4 HG4 HBB4 HF4 HU4 HBM4 c24
          go_wp2_with (refine wl_app rfl (.tmp 58) (.tmp 60) 33 9 1 rfl (by decide) Try.underlying33 iSt (.slice fa m fc) m (sts fs) rfl (HF5.out.alloc _) (some ⟨w5.heap.size, 0, none⟩) 1 1 rfl (by simp) [.string s] rfl (fun ad e j u hj => by injection e with e; subst e; exact cell_one_new _ _ _ j u hj) (by simp; rfl) (by omega) ?_)
          intro v6 w6 hr6 hg6 ho6
          obtain ⟨a6, c6, rfl, _, _⟩ := row_val hr6
          have HBF : Hid ((Value.slice fa m fc).ownBlock ≠ some b) := fun e => tag_ne HF5.out HBB5.out (by decide) e
          have HGF : Hid ((Value.slice fa m fc).ownBlock ≠ some g) := fun e => tag_ne HF5.out HG5.out (by decide) e
          have HMF : Hid ((Value.slice fa m fc).ownBlock ≠ some bm) := fun e => by
            obtain ⟨cs, h1⟩ := row_tag HF5.out e
            have h2 := HM5.out.blk
            rw [h1] at h2; cases h2
          have HR6 : Hid (w6.ownsRow 0 9 1 (.slice a6 (m + 1) c6) (m + 1) (sts fs ++ [.string s]) ∧ ((Value.slice a6 (m + 1) c6).ownBlock = (Value.slice fa m fc).ownBlock ∨ w.heap.size ≤ w5.heap.size ∧ (Value.slice a6 (m + 1) c6).ownBlock = some (w5.heap.size + 1))) := ⟨hr6, ho6.imp id (fun e => ⟨Nat.le_trans HB2.out.size HU5.out.size, by simpa using e⟩)⟩
          have HG6 : Hid (Blk w6 g 70 [.slice (some ⟨b, 0, none⟩) n c, .int .u64 (dm : Int), .map (some bm)]) := (HG5.out.alloc _).kept hg6 (fun e => HGF.out e.symm)
          have HBB6 : Hid (Blk w6 b 87 (tbs X ++ (.string nm :: .slice fa m fc :: (tbs Y ++ sp)))) := (HBB5.out.alloc _).kept hg6 (fun e => HBF.out e.symm)
          have HU6a : Hid (Upd (fun x => (Value.slice fa m fc).ownBlock = some x) w5 w6) := (Upd.of_by (World.grownBy_alloc w5 _ none) (S := fun x => (Value.slice fa m fc).ownBlock = some x) (fun x hx => by cases hx)).trans (Upd.of_by hg6 (S := fun x => (Value.slice fa m fc).ownBlock = some x) (fun x hx => hx)) (fun x hx _ => hx)
          have HM6 : Hid (MapB w6 bm (fun i t => hasB (strip X ++ ⟨nm, fs ++ [s], gn⟩ :: strip Y) i t = true) es5 clock5) := HM5.out.upd HU6a.out (fun e => HMF.out e)
          have HU6 : Hid (Upd (fun x => x = g ∨ x = bm ∨ (Value.slice fa m fc).ownBlock = some x) w2 w6) := (HU5.out.mono (S' := fun x => x = g ∨ x = bm ∨ (Value.slice fa m fc).ownBlock = some x) (fun x hx _ => hx.imp id .inl)).trans HU6a.out (fun x hx _ => .inr (.inr hx))
          have HSZ6 : Hid (w5.heap.size ≤ w6.heap.size) := HU6a.out.size
          clear hr6 hg6 ho6 HG5 HBB5 HF5 HM5 HU5 HU6a c25
          go_wp2_with (refine st_one rfl 33 (.tmp 63) (.tmp 61) rfl b (k * 2 + 1) 87 _ (.slice a6 (m + 1) c6) rfl rfl rfl rfl (by simp [tbs_len, HX.out]) HBB6.out s33 ?_)
          intro w7 B7 G7
          rw [← HX.out, tb_set] at B7
          have HF7 : Hid (Cat w7 (Nw S w w7) g (idxA (strip (X ++ ((⟨nm, fs, gn⟩, .slice fa fs.length fc) : TV) :: Y)) ((k : Int) + 1) s) ∧ Upd S w w7) := by
            rw [HQ.out]
            have r7 : w7.ownsRow 0 9 1 (.slice a6 (m + 1) c6) (m + 1) (sts fs ++ [.string s]) := HR6.out.1.kept G7 (.inr (fun e => tag_ne HR6.out.1 HBB6.out (by decide) e))
            have g7 : Blk w7 g 70 [.slice (some ⟨b, 0, none⟩) (X ++ ((⟨nm, fs, gn⟩, .slice fa fs.length fc) : TV) :: Y).length c, .int .u64 (dm : Int), .map (some bm)] := by rw [HN.out]; exact HG6.out.kept G7 (fun e => hgb (Option.some.inj e))
            have m7 : MapS w7 (.map (some bm)) (fun i t => hasB (strip (X ++ ((⟨nm, fs ++ [s], gn⟩, .slice a6 (m + 1) c6) : TV) :: Y)) i t = true) := by
              have e : strip (X ++ ((⟨nm, fs ++ [s], gn⟩, .slice a6 (m + 1) c6) : TV) :: Y) = strip X ++ ⟨nm, fs ++ [s], gn⟩ :: strip Y := by simp [strip]
              rw [e]
              exact .inr ⟨bm, es5, clock5, rfl, HM6.out.upd (Upd.of_by G7 (S := fun x => x = b) (fun x hx => (Option.some.inj hx).symm)) hnb⟩
            have u7 : Upd (fun x => x = g ∨ (Value.slice (some ⟨b, 0, none⟩) (X ++ ((⟨nm, fs, gn⟩, .slice fa fs.length fc) : TV) :: Y).length c).ownBlock = some x ∨ (Value.slice fa fs.length fc).ownBlock = some x ∨ Value.map none = .map (some x)) w w7 := by
              have u1 : Upd (fun x => x = g ∨ (Value.slice (some ⟨b, 0, none⟩) (X ++ ((⟨nm, fs, gn⟩, .slice fa fs.length fc) : TV) :: Y).length c).ownBlock = some x ∨ (Value.slice fa fs.length fc).ownBlock = some x ∨ Value.map none = .map (some x)) w w2 := Upd.of_below _ HB2.out
              have u2 := u1.trans HU6.out (fun x hx hlt => by
                rcases hx with hx | hx | hx
                · exact .inl hx
                · rcases HBM.out.2 with e | e
                  · exact .inr (.inr (.inr (by rw [← HMU.out, e, hx])))
                  · omega
                · exact .inr (.inr (.inl (by rw [HFM.out]; exact hx))))
              exact u2.trans (Upd.of_by G7 (S := fun x => x = b) (fun x hx => (Option.some.inj hx).symm)) (fun x hx _ => .inr (.inl (by rw [hx]; rfl)))
            have r8 : w7.ownsRow 0 87 2 (.slice (some ⟨b, 0, none⟩) (X ++ ((⟨nm, fs, gn⟩, .slice fa fs.length fc) : TV) :: Y).length c) (X ++ ((⟨nm, fs, gn⟩, .slice fa fs.length fc) : TV) :: Y).length (tbs (X ++ (⟨nm, fs ++ [s], gn⟩, .slice a6 (m + 1) c6) :: Y)) := by
              have e1 : tbs (X ++ ((⟨nm, fs ++ [s], gn⟩, .slice a6 (m + 1) c6) : TV) :: Y) ++ sp = tbs X ++ (.string nm :: .slice a6 (m + 1) c6 :: (tbs Y ++ sp)) := by rw [tbs_app, tbs_cons]; simp
              have e2 := HCL.out.1
              refine val_row (sp := sp) (by rw [e1]; exact B7) (by rw [HN.out]; exact HCL.out.2.2) ?_ HCL.out.2.1 ?_
              · rw [← e2]; simp [tbs_len]
              · rw [tbs_len]; simp
            have hof : ∀ x, (Value.slice a6 (m + 1) c6).ownBlock = some x → (Value.slice fa fs.length fc).ownBlock = some x ∨ w.heap.size ≤ x := fun x hx => by
              rcases HR6.out.2 with e | ⟨e1, e⟩
              · rw [e] at hx; exact .inl (by rw [HFM.out]; exact hx)
              · rw [e] at hx; injection hx with hx; exact .inr (by omega)
            have hbt : ∀ i : Nat, dm.testBit i = goneB (strip (X ++ ((⟨nm, fs ++ [s], gn⟩, .slice a6 (m + 1) c6) : TV) :: Y)) ((i : Int) + 1) := fun i => by
              have e : strip (X ++ ((⟨nm, fs ++ [s], gn⟩, .slice a6 (m + 1) c6) : TV) :: Y) = strip X ++ ⟨nm, fs ++ [s], gn⟩ :: strip Y := by simp [strip]
              have e' : strip (X ++ ((⟨nm, fs, gn⟩, .slice fa fs.length fc) : TV) :: Y) = strip X ++ ⟨nm, fs, gn⟩ :: strip Y := by simp [strip]
              have := HM2.out.bits i
              rw [e'] at this
              rw [this, e]
              exact (gone_idx (t := ⟨nm, fs, gn⟩) s _).symm
            have ok7 : OkT ⟨nm, fs ++ [s], gn⟩ := by
              refine ⟨HOK.out.name, fun x hx => ?_, ?_, fun hg => ?_⟩
              · rcases List.mem_append.1 hx with hx | hx
                · exact HOK.out.fs x hx
                · rw [List.mem_singleton.1 hx]; exact hs40
              · show (fs ++ [s]).length ≤ 16
                rw [List.length_append, HFM.out]; simp; omega
              · exfalso
                have : gn = false := HGN.out
                rw [this] at hg; cases hg
            have fl7 : w7.ownsRow 0 9 1 (.slice a6 (m + 1) c6) (fs ++ [s]).length (sts (fs ++ [s])) := by
              have e1 : sts (fs ++ [s]) = sts fs ++ [.string s] := by simp [sts]
              rw [e1, List.length_append, HFM.out]
              exact r7
            have hM := HMW.out.changed (p' := (⟨nm, fs ++ [s], gn⟩, .slice a6 (m + 1) c6)) u7 g7 r8 fl7 hof m7 hbt ok7
            have hsz : w.heap.size ≤ w7.heap.size := u7.size
            refine ⟨⟨_, dm, _, _, hM, by simp [strip], HI.out.put (fun x hx => .inl hx) (fun x hx => ?_) (fun x hx => ?_)⟩, u7.mono (fun x hx _ => ?_)⟩
            · rcases hof x hx with e | e
              · exact .inl (HI.out.fld _ hmem x e)
              · exact .inr ⟨e, row_lt r7 hx⟩
            · injection hx with hx
              injection hx with hx
              rw [← hx]
              rcases HBM.out.2 with e | e
              · exact .inl (HI.out.map bm (HMU.out.symm.trans e))
              · refine .inr ⟨e, ?_⟩
                have h1 := HBM5.out
                have h2 := HSZ6.out
                have h3 := G7.size
                omega
            · rcases hx with rfl | e | e | e
              · exact HI.out.g
              · exact HI.out.tv x e
              · exact HI.out.fld _ hmem x e
              · exact HI.out.map x e
          clear B7 G7 HR6 HG6 HBB6 HM6 HU6 HSZ6 HBM5 HBM HM2 HI
          go_wp2
          go_ret
          exact ⟨rfl, HF7.out⟩
        · have HMB3 : Hid (MapB w2 bm (fun i t => hasB (strip (X ++ ((⟨nm, fs, gn⟩, .slice fa fs.length fc) : TV) :: Y)) i t = true) es clock) := hMB
          have HF3 : Hid (w2.ownsRow 0 9 1 (.slice fa m fc) m (sts fs)) := by have h1 := HM2.out.fld ((⟨nm, fs, gn⟩, .slice fa fs.length fc) : TV) hmem; rw [← HFM.out]; exact h1
          have HU3 : Hid (Upd (fun x => x = g) w2 w2) := Upd.refl _ _
          have HBM : Hid (bm < w2.heap.size ∧ (mu = .map (some bm) ∨ w.heap.size ≤ bm)) := ⟨(Array.getElem?_eq_some_iff.1 hMB.blk).1, .inl HMU.out⟩
          have HG3 : Hid (Blk w2 g 70 [.slice (some ⟨b, 0, none⟩) n c, .int .u64 (dm : Int), .map (some bm)]) := HG2.out
          have HBB3 : Hid (Blk w2 b 87 (tbs X ++ (.string nm :: .slice fa m fc :: (tbs Y ++ sp)))) := HBB2.out
          clear hMB
          have hmq := fun W => run_eql_map_nil (P := Try.prog) W 68 _ _ (some bm) Try.underlying68
          have K3 := sclone_any s hs w2
          go_wp2_with fail
          refine K3.mono ?_
          clear K3
          rintro e w4 ⟨rfl, hb4⟩
          have HMB4 : Hid (MapB w4 bm (fun i t => hasB (strip (X ++ ((⟨nm, fs, gn⟩, .slice fa fs.length fc) : TV) :: Y)) i t = true) es clock) := HMB3.out.upd (Upd.of_below Non hb4) (fun q => q)
          have HG4 : Hid (Blk w4 g 70 [.slice (some ⟨b, 0, none⟩) n c, .int .u64 (dm : Int), .map (some bm)]) := HG3.out.below hb4 HG3.out.lt
          have HBB4 : Hid (Blk w4 b 87 (tbs X ++ (.string nm :: .slice fa m fc :: (tbs Y ++ sp)))) := HBB3.out.below hb4 HBB3.out.lt
          have HF4 : Hid (w4.ownsRow 0 9 1 (.slice fa m fc) m (sts fs)) := own_upd HF3.out (Upd.of_below Non hb4) (fun _ _ q => q)
          have HU4 : Hid (Upd (fun x => x = g) w2 w4) := HU3.out.trans (Upd.of_below Non hb4) (fun x q => q.elim)
          have HBM4 : Hid (bm < w4.heap.size) := Nat.lt_of_lt_of_le HBM.out.1 hb4.size
          have c24 : w4.cell? ⟨g, 2, none⟩ = some (.map (some bm)) := HG4.out.cell 2
          clear hb4 HMB3 HG3 HBB3 HF3 HU3
          go_wp2_with (refine wl_put rfl (.tmp 49) (.tmp 52) (.tmp 53) rfl bm _ es clock HMB4.out rfl ((k : Int) + 1) s rfl rfl (i64_small (by omega) (by omega)) (by unfold maxLen; omega) HNH.out ?_)
          intro w5 es5 clock5 hM5 hG5
          have hnb : bm ≠ b := fun e => by
            have h1 := HMB4.out.blk
            have h2 : w4.heap[b]? = _ := HBB4.out
            rw [e, h2] at h1; cases h1
          have hng : bm ≠ g := fun e => by
            have h1 := HMB4.out.blk
            have h2 : w4.heap[g]? = _ := HG4.out
            rw [e, h2] at h1; cases h1
          have HM5 : Hid (MapB w5 bm (fun i t => hasB (strip X ++ ⟨nm, fs ++ [s], gn⟩ :: strip Y) i t = true) es5 clock5) := hM5.congr (fun i t => by
            have e : strip (X ++ ((⟨nm, fs, gn⟩, .slice fa fs.length fc) : TV) :: Y) = strip X ++ ⟨nm, fs, gn⟩ :: strip Y := by simp [strip]
            rw [e]
            exact has_idx (t := ⟨nm, fs, gn⟩) HXS.out s i t)
          have HG5 : Hid (Blk w5 g 70 [.slice (some ⟨b, 0, none⟩) n c, .int .u64 (dm : Int), .map (some bm)]) := HG4.out.kept hG5 (fun e => hng (Option.some.inj e).symm)
          have HBB5 : Hid (Blk w5 b 87 (tbs X ++ (.string nm :: .slice fa m fc :: (tbs Y ++ sp)))) := HBB4.out.kept hG5 (fun e => hnb (Option.some.inj e).symm)
          have HF5 : Hid (w5.ownsRow 0 9 1 (.slice fa m fc) m (sts fs)) := HF4.out.kept hG5 (.inr (fun e => by
            obtain ⟨cs, h1⟩ := row_tag HF4.out e
            have h2 := HMB4.out.blk
            rw [h1] at h2; cases h2))
          have HU5 : Hid (Upd (fun x => x = g ∨ x = bm) w2 w5) := (HU4.out.mono (S' := fun x => x = g ∨ x = bm) (fun x hx _ => .inl hx)).trans (Upd.of_by hG5 (S := fun x => x = bm) (fun x hx => (Option.some.inj hx).symm)) (fun x hx _ => .inr hx)
          have HBM5 : Hid (bm < w5.heap.size) := Nat.lt_of_lt_of_le HBM4.out hG5.size
          have c25 : w5.cell? ⟨b, k * 2 + 1, none⟩ = some (.slice fa m fc) := by
            have := HBB5.out.cell (k * 2 + 1)
            rw [this, ← HX.out, ← tbs_len, List.getElem?_append_right (by omega), Nat.add_sub_cancel_left]
            rfl
          clear hM5 hG5 HMB4 HG4 HBB4 HF4 HU4 HBM4 c24
          go_wp2_with (refine wl_app rfl (.tmp 58) (.tmp 60) 33 9 1 rfl (by decide) Try.underlying33 iSt (.slice fa m fc) m (sts fs) rfl (HF5.out.alloc _) (some ⟨w5.heap.size, 0, none⟩) 1 1 rfl (by simp) [.string s] rfl (fun ad e j u hj => by injection e with e; subst e; exact cell_one_new _ _ _ j u hj) (by simp; rfl) (by omega) ?_)
          intro v6 w6 hr6 hg6 ho6
          obtain ⟨a6, c6, rfl, _, _⟩ := row_val hr6
          have HBF : Hid ((Value.slice fa m fc).ownBlock ≠ some b) := fun e => tag_ne HF5.out HBB5.out (by decide) e
          have HGF : Hid ((Value.slice fa m fc).ownBlock ≠ some g) := fun e => tag_ne HF5.out HG5.out (by decide) e
          have HMF : Hid ((Value.slice fa m fc).ownBlock ≠ some bm) := fun e => by
            obtain ⟨cs, h1⟩ := row_tag HF5.out e
            have h2 := HM5.out.blk
            rw [h1] at h2; cases h2
          have HR6 : Hid (w6.ownsRow 0 9 1 (.slice a6 (m + 1) c6) (m + 1) (sts fs ++ [.string s]) ∧ ((Value.slice a6 (m + 1) c6).ownBlock = (Value.slice fa m fc).ownBlock ∨ w.heap.size ≤ w5.heap.size ∧ (Value.slice a6 (m + 1) c6).ownBlock = some (w5.heap.size + 1))) := ⟨hr6, ho6.imp id (fun e => ⟨Nat.le_trans HB2.out.size HU5.out.size, by simpa using e⟩)⟩
          have HG6 : Hid (Blk w6 g 70 [.slice (some ⟨b, 0, none⟩) n c, .int .u64 (dm : Int), .map (some bm)]) := (HG5.out.alloc _).kept hg6 (fun e => HGF.out e.symm)
          have HBB6 : Hid (Blk w6 b 87 (tbs X ++ (.string nm :: .slice fa m fc :: (tbs Y ++ sp)))) := (HBB5.out.alloc _).kept hg6 (fun e => HBF.out e.symm)
          have HU6a : Hid (Upd (fun x => (Value.slice fa m fc).ownBlock = some x) w5 w6) := (Upd.of_by (World.grownBy_alloc w5 _ none) (S := fun x => (Value.slice fa m fc).ownBlock = some x) (fun x hx => by cases hx)).trans (Upd.of_by hg6 (S := fun x => (Value.slice fa m fc).ownBlock = some x) (fun x hx => hx)) (fun x hx _ => hx)
          have HM6 : Hid (MapB w6 bm (fun i t => hasB (strip X ++ ⟨nm, fs ++ [s], gn⟩ :: strip Y) i t = true) es5 clock5) := HM5.out.upd HU6a.out (fun e => HMF.out e)
          have HU6 : Hid (Upd (fun x => x = g ∨ x = bm ∨ (Value.slice fa m fc).ownBlock = some x) w2 w6) := (HU5.out.mono (S' := fun x => x = g ∨ x = bm ∨ (Value.slice fa m fc).ownBlock = some x) (fun x hx _ => hx.imp id .inl)).trans HU6a.out (fun x hx _ => .inr (.inr hx))
          have HSZ6 : Hid (w5.heap.size ≤ w6.heap.size) := HU6a.out.size
          clear hr6 hg6 ho6 HG5 HBB5 HF5 HM5 HU5 HU6a c25
          go_wp2_with (refine st_one rfl 33 (.tmp 63) (.tmp 61) rfl b (k * 2 + 1) 87 _ (.slice a6 (m + 1) c6) rfl rfl rfl rfl (by simp [tbs_len, HX.out]) HBB6.out s33 ?_)
          intro w7 B7 G7
          rw [← HX.out, tb_set] at B7
          have HF7 : Hid (Cat w7 (Nw S w w7) g (idxA (strip (X ++ ((⟨nm, fs, gn⟩, .slice fa fs.length fc) : TV) :: Y)) ((k : Int) + 1) s) ∧ Upd S w w7) := by
            rw [HQ.out]
            have r7 : w7.ownsRow 0 9 1 (.slice a6 (m + 1) c6) (m + 1) (sts fs ++ [.string s]) := HR6.out.1.kept G7 (.inr (fun e => tag_ne HR6.out.1 HBB6.out (by decide) e))
            have g7 : Blk w7 g 70 [.slice (some ⟨b, 0, none⟩) (X ++ ((⟨nm, fs, gn⟩, .slice fa fs.length fc) : TV) :: Y).length c, .int .u64 (dm : Int), .map (some bm)] := by rw [HN.out]; exact HG6.out.kept G7 (fun e => hgb (Option.some.inj e))
            have m7 : MapS w7 (.map (some bm)) (fun i t => hasB (strip (X ++ ((⟨nm, fs ++ [s], gn⟩, .slice a6 (m + 1) c6) : TV) :: Y)) i t = true) := by
              have e : strip (X ++ ((⟨nm, fs ++ [s], gn⟩, .slice a6 (m + 1) c6) : TV) :: Y) = strip X ++ ⟨nm, fs ++ [s], gn⟩ :: strip Y := by simp [strip]
              rw [e]
              exact .inr ⟨bm, es5, clock5, rfl, HM6.out.upd (Upd.of_by G7 (S := fun x => x = b) (fun x hx => (Option.some.inj hx).symm)) hnb⟩
            have u7 : Upd (fun x => x = g ∨ (Value.slice (some ⟨b, 0, none⟩) (X ++ ((⟨nm, fs, gn⟩, .slice fa fs.length fc) : TV) :: Y).length c).ownBlock = some x ∨ (Value.slice fa fs.length fc).ownBlock = some x ∨ Value.map (some bm) = .map (some x)) w w7 := by
              have u1 : Upd (fun x => x = g ∨ (Value.slice (some ⟨b, 0, none⟩) (X ++ ((⟨nm, fs, gn⟩, .slice fa fs.length fc) : TV) :: Y).length c).ownBlock = some x ∨ (Value.slice fa fs.length fc).ownBlock = some x ∨ Value.map (some bm) = .map (some x)) w w2 := Upd.of_below _ HB2.out
              have u2 := u1.trans HU6.out (fun x hx hlt => by
                rcases hx with hx | hx | hx
                · exact .inl hx
                · rcases HBM.out.2 with e | e
                  · exact .inr (.inr (.inr (by rw [← HMU.out, e, hx])))
                  · omega
                · exact .inr (.inr (.inl (by rw [HFM.out]; exact hx))))
              exact u2.trans (Upd.of_by G7 (S := fun x => x = b) (fun x hx => (Option.some.inj hx).symm)) (fun x hx _ => .inr (.inl (by rw [hx]; rfl)))
            have r8 : w7.ownsRow 0 87 2 (.slice (some ⟨b, 0, none⟩) (X ++ ((⟨nm, fs, gn⟩, .slice fa fs.length fc) : TV) :: Y).length c) (X ++ ((⟨nm, fs, gn⟩, .slice fa fs.length fc) : TV) :: Y).length (tbs (X ++ (⟨nm, fs ++ [s], gn⟩, .slice a6 (m + 1) c6) :: Y)) := by
              have e1 : tbs (X ++ ((⟨nm, fs ++ [s], gn⟩, .slice a6 (m + 1) c6) : TV) :: Y) ++ sp = tbs X ++ (.string nm :: .slice a6 (m + 1) c6 :: (tbs Y ++ sp)) := by rw [tbs_app, tbs_cons]; simp
              have e2 := HCL.out.1
              refine val_row (sp := sp) (by rw [e1]; exact B7) (by rw [HN.out]; exact HCL.out.2.2) ?_ HCL.out.2.1 ?_
              · rw [← e2]; simp [tbs_len]
              · rw [tbs_len]; simp
            have hof : ∀ x, (Value.slice a6 (m + 1) c6).ownBlock = some x → (Value.slice fa fs.length fc).ownBlock = some x ∨ w.heap.size ≤ x := fun x hx => by
              rcases HR6.out.2 with e | ⟨e1, e⟩
              · rw [e] at hx; exact .inl (by rw [HFM.out]; exact hx)
              · rw [e] at hx; injection hx with hx; exact .inr (by omega)
            have hbt : ∀ i : Nat, dm.testBit i = goneB (strip (X ++ ((⟨nm, fs ++ [s], gn⟩, .slice a6 (m + 1) c6) : TV) :: Y)) ((i : Int) + 1) := fun i => by
              have e : strip (X ++ ((⟨nm, fs ++ [s], gn⟩, .slice a6 (m + 1) c6) : TV) :: Y) = strip X ++ ⟨nm, fs ++ [s], gn⟩ :: strip Y := by simp [strip]
              have e' : strip (X ++ ((⟨nm, fs, gn⟩, .slice fa fs.length fc) : TV) :: Y) = strip X ++ ⟨nm, fs, gn⟩ :: strip Y := by simp [strip]
              have := HM2.out.bits i
              rw [e'] at this
              rw [this, e]
              exact (gone_idx (t := ⟨nm, fs, gn⟩) s _).symm
            have ok7 : OkT ⟨nm, fs ++ [s], gn⟩ := by
              refine ⟨HOK.out.name, fun x hx => ?_, ?_, fun hg => ?_⟩
              · rcases List.mem_append.1 hx with hx | hx
                · exact HOK.out.fs x hx
                · rw [List.mem_singleton.1 hx]; exact hs40
              · show (fs ++ [s]).length ≤ 16
                rw [List.length_append, HFM.out]; simp; omega
              · exfalso
                have : gn = false := HGN.out
                rw [this] at hg; cases hg
            have fl7 : w7.ownsRow 0 9 1 (.slice a6 (m + 1) c6) (fs ++ [s]).length (sts (fs ++ [s])) := by
              have e1 : sts (fs ++ [s]) = sts fs ++ [.string s] := by simp [sts]
              rw [e1, List.length_append, HFM.out]
              exact r7
            have hM := HMW.out.changed (p' := (⟨nm, fs ++ [s], gn⟩, .slice a6 (m + 1) c6)) u7 g7 r8 fl7 hof m7 hbt ok7
            have hsz : w.heap.size ≤ w7.heap.size := u7.size
            refine ⟨⟨_, dm, _, _, hM, by simp [strip], HI.out.put (fun x hx => .inl hx) (fun x hx => ?_) (fun x hx => ?_)⟩, u7.mono (fun x hx _ => ?_)⟩
            · rcases hof x hx with e | e
              · exact .inl (HI.out.fld _ hmem x e)
              · exact .inr ⟨e, row_lt r7 hx⟩
            · injection hx with hx
              injection hx with hx
              rw [← hx]
              rcases HBM.out.2 with e | e
              · exact .inl (HI.out.map bm (HMU.out.symm.trans e))
              · refine .inr ⟨e, ?_⟩
                have h1 := HBM5.out
                have h2 := HSZ6.out
                have h3 := G7.size
                omega
            · rcases hx with rfl | e | e | e
              · exact HI.out.g
              · exact HI.out.tv x e
              · exact HI.out.fld _ hmem x e
              · exact HI.out.map x e
          clear B7 G7 HR6 HG6 HBB6 HM6 HU6 HSZ6 HBM5 HBM HM2 HI
          go_wp2
          go_ret
          exact ⟨rfl, HF7.out⟩
#print axioms idx_in
end Go.Proofs.Ytbkogaencjmmgaa
