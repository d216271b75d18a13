/-
  drop: a table goes.
-/
import Derived.Test.YtbkogaencjmmgaaCf
namespace Go.Proofs.Ytbkogaencjmmgaa
open Go.RowKit Go.MapKept
set_option linter.unusedVariables false
set_option linter.unusedSimpArgs false
theorem i64_small {x : Int} (h0 : 0 ≤ x) (h1 : x < 1000000) : I64 x := by
  show (decide ((-9223372036854775808 : Int) ≤ x) && decide (x ≤ (9223372036854775807 : Int))) = true
  rw [Bool.and_eq_true, decide_eq_true_eq, decide_eq_true_eq]
  omega
theorem wl_del {ops : Array Oper} {rest : List Oper} {o : Oper} {a : Act} {w : World} {Q : Exit → Act → World → Prop} (hg : o.guard = none) (m x : Operand) (ho : o.op = .call { callee := .builtin .delete, args := #[m, x], argTypes := #[68, 82] }) (b : Nat) (H : Int → ByteArray → Prop) (es : Array MapEntry) (clock : Nat) (hM : MapB w b H es clock) (hm : a.eval m = .map (some b)) (id : Int) (s : ByteArray) (hx : a.eval x = pk id s) (hi : I64 id) (hs : s.size ≤ maxLen)
    (h : ∀ w' es', MapB w' b (fun i t => H i t ∧ ¬ (i = id ∧ t = s)) es' clock → w.grownBy w' (some b) → wpList Try.prog ops Q rest (a.put o.dst (.tuple #[])) w') : wpList Try.prog ops Q (o :: rest) a w := by
  refine wpList_plain hg fun K hK => ?_
  obtain ⟨w', es', hr, h1, h2⟩ := hM.delete o.type id s hi hs
  unfold Oper.wp execOp
  simp only [ho, resolve, invoke, builtin, Sem.run_bind, Sem.run_pure, Result.andThen_ok, List.map_toArray, List.map_cons, List.map_nil, hm, hx, hr]
  exact hK _ _ (h w' es' h1 h2)
theorem has_mid {A B : List Tb} {t : Tb} {id : Int} (h : (A.length : Int) = id - 1) (i : Int) (s : ByteArray) : hasB (A ++ t :: B) i s = if i = id then t.fs.any (fun x => bq x s) else hasB (A ++ t :: B) i s := by
  by_cases e : i = id
  · rw [if_pos e, e]; unfold hasB; rw [tbl_at h]
  · rw [if_neg e]
theorem any_mem {fs : List ByteArray} {s : ByteArray} : fs.any (fun x => bq x s) = true ↔ s ∈ fs := by
  rw [List.any_eq_true]
  constructor
  · rintro ⟨x, hx, e⟩
    rw [bq_iff] at e
    exact e ▸ hx
  · exact fun h => ⟨s, h, bq_iff.2 rfl⟩
theorem has_drop {A B : List Tb} {t : Tb} {id : Int} (h : (A.length : Int) = id - 1) (i : Int) (s : ByteArray) : (hasB (A ++ t :: B) i s = true ∧ ¬ (i = id ∧ s ∈ t.fs)) ↔ hasB (A ++ ⟨t.name, [], true⟩ :: B) i s = true := by
  have e0 : hasB (A ++ ⟨t.name, [], true⟩ :: B) i s = if i = id then false else hasB (A ++ t :: B) i s := by
    unfold hasB
    rw [tbl_put (t := t) i]
    by_cases e : i = id
    · rw [if_pos e, if_pos (by omega)]; rfl
    · rw [if_neg e, if_neg (by omega)]
  rw [e0]
  by_cases e : i = id
  · rw [if_pos e]
    subst e
    constructor
    · rintro ⟨h1, h2⟩
      rw [has_mid h, if_pos rfl, any_mem] at h1
      exact absurd ⟨rfl, h1⟩ h2
    · intro q; cases q
  · rw [if_neg e]
    exact ⟨fun q => q.1, fun q => ⟨q, fun r => e r.1⟩⟩
theorem gone_drop {A B : List Tb} {t : Tb} (i : Int) : goneB (A ++ ⟨t.name, [], true⟩ :: B) i = if i = (A.length : Int) + 1 then true else goneB (A ++ t :: B) i := by
  unfold goneB
  rw [tbl_put (t := t) i]
  by_cases e : i = (A.length : Int) + 1
  · rw [if_pos e, if_pos e]
  · rw [if_neg e, if_neg e]
theorem or_bit (dm k i : Nat) : (dm ||| 2 ^ k).testBit i = if i = k then true else dm.testBit i := by
  rw [Nat.testBit_or, Nat.testBit_two_pow]
  by_cases h : k = i
  · subst h; simp
  · rw [if_neg (fun e => h e.symm)]; simp [h]
theorem or_u64 (dm k : Nat) (h : dm < 18446744073709551616) (hk : k < 64) : bits .or .u64 (dm : Int) (IntKind.u64.wrap (2 ^ k)) = ((dm ||| 2 ^ k : Nat) : Int) := by
  have h1 : 2 ^ k < 18446744073709551616 := by
    have : 2 ^ k < 2 ^ 64 := Nat.pow_lt_pow_right (by decide) hk
    omega
  have e0 : ∀ z : Nat, z < 18446744073709551616 → IntKind.u64.wrap (z : Int) = (z : Int) := fun z hz => by rw [IntKind.wrap_u64]; omega
  have e1 : IntKind.u64.wrap (2 ^ k) = ((2 ^ k : Nat) : Int) := by
    have e2 : (2 : Int) ^ k = ((2 ^ k : Nat) : Int) := by simp
    rw [e2, e0 _ h1]
  rw [e1]
  exact bits_or_u64_nat dm (2 ^ k) h h1
theorem tb_blk {w : World} {b : Nat} {X Y : List TV} {p : TV} {sp : List Value} (h : Blk w b 87 (tbs (X ++ p :: Y) ++ sp)) : Blk w b 87 (tbs X ++ (.string p.1.name :: p.2 :: (tbs Y ++ sp))) := by
  have e : tbs (X ++ p :: Y) ++ sp = tbs X ++ (.string p.1.name :: p.2 :: (tbs Y ++ sp)) := by rw [tbs_app, tbs_cons]; simp
  rw [e] at h
  exact h
theorem tb_set {X : List TV} {R : List Value} {a v v' : Value} : (tbs X ++ (a :: v :: R)).set (X.length * 2 + 1) v' = tbs X ++ (a :: v' :: R) := by
  have e : X.length * 2 + 1 = (tbs X).length + 1 := by rw [tbs_len]
  rw [e, List.set_append_right _ _ (by omega), Nat.add_sub_cancel_left]
  rfl
set_option maxRecDepth 8000 in
set_option maxHeartbeats 2000000 in
theorem drop_in (S : Nat → Prop) (g : Nat) (tv mv : Value) (dm : Nat) (L : List TV) (id : Int) (w : World) (h : CM w g tv dm mv L) (hI : In S g tv mv L) :
    Calls Try.prog 23 #[.pointer (some ⟨g, 0, none⟩), .int .i64 id] w fun e w' => e = .returned (.int .i64 (dropE (strip L) id)) ∧ Hid (Cat w' (Nw S w w') g (dropA (strip L) id) ∧ Upd S w w') := by
  have K := live_any g tv mv dm L id w h
  cases hlv : liveB (strip L) id with
  | false =>
    have HF : Hid (Cat w (Nw S w w) g (dropA (strip L) id) ∧ Upd S w w) := by
      refine ⟨?_, Upd.refl _ _⟩
      unfold dropA
      rw [hlv, if_neg (by decide)]
      exact Cat.mono ⟨tv, dm, mv, L, h, rfl, hI⟩ (fun x hx => .inl hx)
    have e7 : dropE (strip L) id = 7 := by unfold dropE; rw [hlv]; rfl
    rw [e7]
    rw [hlv] at K
    clear h hI
    go_enter Try.func23, Try.ntmps23
    go_wp2_with (go_at_call 34; refine K.mono ?_; clear K; rintro e w' ⟨rfl, rfl⟩)
    go_ret
    exact ⟨rfl, HF.out⟩
  | true =>
    have e0 : dropE (strip L) id = 0 := by unfold dropE; rw [hlv]; rfl
    have hth : thereB (strip L) id = true := by unfold liveB at hlv; simp only [Bool.and_eq_true] at hlv; exact hlv.1
    rw [e0]
    rw [hlv] at K
    simp only [thereB, Bool.and_eq_true, decide_eq_true_eq, strip_len] at hth
    obtain ⟨k, hk⟩ : ∃ k : Nat, id = (k : Int) + 1 := ⟨(id - 1).toNat, by omega⟩
    subst hk
    obtain ⟨p, hp⟩ : ∃ p, L[k]? = some p := ⟨_, List.getElem?_eq_getElem (by omega)⟩
    obtain ⟨X, Y, rfl, hX⟩ : ∃ X Y, L = X ++ p :: Y ∧ X.length = k := ⟨_, _, (at_split hp).1, (at_split hp).2⟩
    obtain ⟨⟨nm, fs, gn⟩, fv⟩ := p
    have HQ : Hid (dropA (strip (X ++ (⟨nm, fs, gn⟩, fv) :: Y)) ((k : Int) + 1) = strip (X ++ (⟨nm, [], true⟩, .slice none 0 0) :: Y)) := by
      show _ = _
      unfold dropA
      rw [hlv, if_pos rfl]
      have := updA_at (X := strip X) (Y := strip Y) (t := ⟨nm, fs, gn⟩) (id := (k : Int) + 1) (by rw [strip_len, hX]; omega) (fun t => ⟨t.name, [], true⟩)
      simpa [strip] using this
    have hmem : ((⟨nm, fs, gn⟩, fv) : TV) ∈ X ++ (⟨nm, fs, gn⟩, fv) :: Y := by simp
    have hfv : ∃ fa fc, fv = .slice fa fs.length fc ∧ (fs.length = 0 ∨ ∃ b, fa = some ⟨b, 0, none⟩) := by
      obtain ⟨fa, fc, e, _, e2⟩ := row_val (h.fld _ hmem)
      refine ⟨fa, fc, e, ?_⟩
      rcases e2 with ⟨e2, _⟩ | ⟨b, sp, e2, _⟩
      · exact .inl e2
      · exact .inr ⟨b, e2⟩
    obtain ⟨fa, fc, rfl, hfa⟩ := hfv
    have HM : Hid (CM w g tv dm mv (X ++ (⟨nm, fs, gn⟩, .slice fa fs.length fc) :: Y)) := h
    have HI : Hid (In S g tv mv (X ++ (⟨nm, fs, gn⟩, .slice fa fs.length fc) :: Y)) := hI
    obtain ⟨n, hn⟩ : ∃ n, (X ++ ((⟨nm, fs, gn⟩, .slice fa fs.length fc) : TV) :: Y).length = n := ⟨_, rfl⟩
    have HN : Hid ((X ++ ((⟨nm, fs, gn⟩, .slice fa fs.length fc) : TV) :: Y).length = n) := hn
    have hkn : k < n := by rw [← hn]; simp; omega
    have hn64 : n ≤ 64 := by have := h.ok.len; rw [strip_len, hn] at this; exact this
    obtain ⟨a, c, rfl, hnc, hrv⟩ := row_val h.row
    obtain ⟨b, sp, rfl, hbb, hbl, hcm⟩ : ∃ b sp, a = some ⟨b, 0, none⟩ ∧ Blk w b 87 (tbs (X ++ (⟨nm, fs, gn⟩, .slice fa fs.length fc) :: Y) ++ sp) ∧ (tbs (X ++ (⟨nm, fs, gn⟩, .slice fa fs.length fc) :: Y) ++ sp).length = c * 2 ∧ c ≤ maxLen := by
      rcases hrv with ⟨h0, _⟩ | h1
      · rw [hn] at h0; omega
      · exact h1
    clear hrv
    have HBB : Hid (Blk w b 87 (tbs X ++ (.string nm :: .slice fa fs.length fc :: (tbs Y ++ sp)))) := tb_blk hbb
    have HCL : Hid ((tbs (X ++ (⟨nm, fs, gn⟩, .slice fa fs.length fc) :: Y) ++ sp).length = c * 2 ∧ c ≤ maxLen ∧ n ≤ c) := ⟨hbl, hcm, by rw [← hn]; exact hnc⟩
    have HX : Hid (X.length = k) := hX
    have HFS : Hid (∀ s ∈ fs, s.size ≤ 40) := by
      have := h.ok.ok ⟨nm, fs, gn⟩ (by simp [strip])
      exact this.fs
    have HMS : Hid (MapS w mv (fun i t => hasB (strip (X ++ (⟨nm, fs, gn⟩, .slice fa fs.length fc) :: Y)) i t = true)) := h.map
    have HHS : Hid (∀ t ∈ fs, hasB (strip (X ++ (⟨nm, fs, gn⟩, .slice fa fs.length fc) :: Y)) ((k : Int) + 1) t = true) := fun t ht => by
      have e : strip (X ++ ((⟨nm, fs, gn⟩, .slice fa fs.length fc) : TV) :: Y) = strip X ++ ⟨nm, fs, gn⟩ :: strip Y := by simp [strip]
      rw [e, has_mid (id := (k : Int) + 1) (by rw [strip_len, hX]; omega), if_pos rfl, any_mem]
      exact ht
    have c0 : w.cell? ⟨g, 0, none⟩ = some (.slice (some ⟨b, 0, none⟩) n c) := by rw [← hn]; exact h.blk.cell 0
    have c21 : w.cell? ⟨b, k * 2 + 1, none⟩ = some (.slice fa fs.length fc) := by
      have := HBB.out.cell (k * 2 + 1)
      rw [this, ← hX, ← tbs_len, List.getElem?_append_right (by omega), Nat.add_sub_cancel_left]
      rfl
    obtain ⟨m, hm⟩ : ∃ m, fs.length = m := ⟨_, rfl⟩
    have HFM : Hid (fs.length = m) := hm
    rw [hm] at c21
    have hm16 : m ≤ 16 := by
      have := h.ok.ok ⟨nm, fs, gn⟩ (by simp [strip])
      have := this.len
      rw [← hm]; exact this
    have w1 : wrap64 ((k : Int) + 1 - 1) = (k : Int) := wrap_small (n := k) (by omega) (by omega)
    have hx1 : ¬ ((k : Int) < 0) := by omega
    have hx2 : ¬ ((n : Int) ≤ (k : Int)) := by omega
    clear h hI hbb hbl hcm hX hp hlv hth hn hnc hm e0
    go_enter Try.func23, Try.ntmps23
    go_wp2_with (go_at_call 34; refine K.mono ?_; clear K; rintro e w' ⟨rfl, hw⟩; have hw' := hw.symm; subst hw'; clear hw)
    go_loopw [24] (fun i wr => ∃ q : Nat, q ≤ m ∧ i = .int .i64 (q : Int) ∧ Hid (Upd (fun x => mv = .map (some x)) w wr ∧ MapS wr mv (fun i t => hasB (strip (X ++ (⟨nm, fs, gn⟩, .slice fa fs.length fc) :: Y)) i t = true ∧ ¬ (i = (k : Int) + 1 ∧ t ∈ fs.take q)))) (fun i _ => m - (intOf i).toNat)
    case atStart =>
      refine ⟨0, by omega, rfl, Upd.refl _ _, ?_⟩
      exact HMS.out.congr (by simp)
    case round =>
      obtain ⟨q, hq, rfl, HL⟩ := hrel
      have HMW : Hid (CM w g (.slice (some ⟨b, 0, none⟩) (X ++ ((⟨nm, fs, gn⟩, .slice fa fs.length fc) : TV) :: Y).length c) dm mv (X ++ (⟨nm, fs, gn⟩, .slice fa fs.length fc) :: Y)) := HM.out
      have hgm : mv ≠ .map (some g) := HMS.out.blk HM.out.blk
      have hbm : mv ≠ .map (some b) := HMS.out.row HM.out.row rfl
      have HG : Hid (Blk wr g 70 [.slice (some ⟨b, 0, none⟩) n c, .int .u64 (dm : Int), mv]) := by
        have := HM.out.blk.upd HL.out.1 hgm
        rw [HN.out] at this
        exact this
      have HBR : Hid (Blk wr b 87 (tbs X ++ (.string nm :: .slice fa fs.length fc :: (tbs Y ++ sp)))) := HBB.out.upd HL.out.1 hbm
      by_cases hlt : q < m
      case pos =>
        have hlt' : (q : Int) < (m : Int) := by omega
        obtain ⟨s, hs⟩ : ∃ s, fs[q]? = some s := ⟨_, List.getElem?_eq_getElem (by rw [HFM.out]; exact hlt)⟩
        have hsm := List.mem_of_getElem? hs
        obtain ⟨bf, rfl⟩ := hfa.resolve_left (by rw [HFM.out]; omega)
        have cf : wr.cell? ⟨bf, q, none⟩ = some (.string s) := by
          have hr := HM.out.fld _ hmem
          have hr2 := own_upd hr HL.out.1 (fun x hx e => HMS.out.row hr hx e)
          have := hr2.cells (g := bf) rfl q (.string s) (by simp [sts, hs])
          simpa [Addr.add_lit] using this
        have c2 : wr.cell? ⟨g, 2, none⟩ = some mv := HG.out.cell 2
        obtain ⟨bm, es, clock, hmv, hMB⟩ : ∃ bm es clock, mv = .map (some bm) ∧ MapB wr bm (fun i t => hasB (strip (X ++ (⟨nm, fs, gn⟩, .slice (some ⟨bf, 0, none⟩) fs.length fc) :: Y)) i t = true ∧ ¬ (i = (k : Int) + 1 ∧ t ∈ fs.take q)) es clock := by
          rcases HL.out.2 with ⟨e, hn⟩ | h
          · exfalso
            rcases HMS.out with ⟨e2, hn2⟩ | ⟨_, _, _, e2, _⟩
            · exact hn2 _ _ (HHS.out s hsm)
            · rw [e] at e2; cases e2
          · exact h
        have HMB : Hid (MapB wr bm (fun i t => hasB (strip (X ++ (⟨nm, fs, gn⟩, .slice (some ⟨bf, 0, none⟩) fs.length fc) :: Y)) i t = true ∧ ¬ (i = (k : Int) + 1 ∧ t ∈ fs.take q)) es clock) := hMB
        have HMV : Hid (mv = .map (some bm)) := hmv
        have HUL : Hid (Upd (fun x => mv = .map (some x)) w wr) := HL.out.1
        have hs40 := HFS.out s hsm
        have hy1 : ¬ ((q : Int) < 0) := by omega
        have hy2 : ¬ ((m : Int) ≤ (q : Int)) := by omega
        rw [hmv] at c2
        clear hMB hmv HG HBR HL hgm hbm
        go_wp2_with (refine wl_del rfl (.tmp 31) (.tmp 34) rfl bm _ es clock HMB.out rfl ((k : Int) + 1) s rfl (i64_small (by omega) (by omega)) (by unfold maxLen; omega) ?_)
        intro w2 es2 hM2 hG2
        have HR : Hid (Upd (fun x => mv = .map (some x)) w w2 ∧ MapS w2 mv (fun i t => hasB (strip (X ++ (⟨nm, fs, gn⟩, .slice (some ⟨bf, 0, none⟩) fs.length fc) :: Y)) i t = true ∧ ¬ (i = (k : Int) + 1 ∧ t ∈ fs.take (q + 1)))) := by
          refine ⟨HUL.out.trans (Upd.of_by hG2 (S := fun x => mv = .map (some x)) (fun x hx => by injection hx with hx; rw [HMV.out, hx])) (fun x hx _ => hx), .inr ⟨bm, es2, clock, HMV.out, hM2.congr fun i t => ?_⟩⟩
          rw [List.take_add_one, hs]
          have hmt : t ∈ fs.take q ++ (some s).toList ↔ (t ∈ fs.take q ∨ t = s) := by simp
          rw [hmt]
          simp only [not_and]
          constructor
          · rintro ⟨⟨h1, h2⟩, h3⟩
            exact ⟨h1, fun e1 e2 => e2.elim (h2 e1) (h3 e1)⟩
          · rintro ⟨h1, h2⟩
            exact ⟨⟨h1, fun e1 e2 => h2 e1 (.inl e2)⟩, fun e1 e2 => h2 e1 (.inr e2)⟩
        clear hM2 hG2 HMB HUL c2 cf
        go_wp2
        go_roundw
        case rel => exact ⟨q + 1, by omega, by go_num, HR.out⟩
        case measure => simp [intOf]; omega
      have hlt' : ¬ (q : Int) < (m : Int) := by omega
      have HMX : Hid (Upd (fun x => mv = .map (some x)) w wr ∧ MapS wr mv (fun i t => hasB (strip (X ++ (⟨nm, [], true⟩, .slice none 0 0) :: Y)) i t = true)) := by
        refine ⟨HL.out.1, HL.out.2.congr fun i t => ?_⟩
        rw [List.take_of_length_le (by rw [HFM.out]; omega)]
        have := has_drop (A := strip X) (B := strip Y) (t := ⟨nm, fs, gn⟩) (id := (k : Int) + 1) (by rw [strip_len, HX.out]; omega) i t
        simpa [strip] using this
      clear HL
      go_wp2_with (refine st_one rfl 33 (.tmp 38) (.const (.slice none 0 0)) rfl b (k * 2 + 1) 87 _ (.slice none 0 0) rfl rfl rfl rfl (by simp [tbs_len, HX.out]) HBR.out s33 ?_)
      intro w2 B2 G2
      rw [← HX.out, tb_set] at B2
      have HB2 : Hid (Blk w2 b 87 (tbs X ++ (.string nm :: .slice none 0 0 :: (tbs Y ++ sp)))) := B2
      have HG2 : Hid (Blk w2 g 70 [.slice (some ⟨b, 0, none⟩) n c, .int .u64 (dm : Int), mv]) := HG.out.kept G2 (fun e => tag_ne HM.out.row HM.out.blk (by decide) e.symm)
      have HU2 : Hid (wr.grownBy w2 (some b)) := G2
      have HMAP : Hid (MapS w2 mv (fun i t => hasB (strip (X ++ (⟨nm, [], true⟩, .slice none 0 0) :: Y)) i t = true)) := HMX.out.2.upd (Upd.of_by G2 (S := fun x => x = b) (fun x hx => (Option.some.inj hx).symm)) (fun x hx e => hbm (by rw [hx, e]))
      clear B2 G2 HG HBR
      obtain ⟨C, hC⟩ : ∃ C : World → Prop, C = fun W => Below w2.heap.size w2 W := ⟨_, rfl⟩
      have F1 : Hid (∀ W, C W → W.cell? ⟨g, 1, none⟩ = some (.int .u64 (dm : Int))) := fun W hW => by rw [hC] at hW; exact (HG2.out.below hW HG2.out.lt).cell 1
      have CG : Hid (∀ w w', C w → Grow w w' → C w') := fun W W' h1 h2 => by rw [hC] at h1 ⊢; exact h1.trans (h2.mono h1.size)
      have CE : Hid (∀ W, C W → Below w2.heap.size w2 W) := fun W h => by rw [hC] at h; exact h
      have C0 : Hid (C { w2 with drawn := w2.drawn + 1 }) := by rw [hC]; exact Below.drew (Below.refl _ _)
      clear hC
      go_wp2_with fail
      refine region_grow [10] (by kernel_rfl) ?_
      have hCp : ∀ p : Prop, (∀ W, C W → p) ↔ p := fun p => ⟨fun h => h _ C0.out, fun h _ _ => h⟩
      generalize ({ w2 with drawn := w2.drawn + 1 } : World) = y0 at *
      refine segR 1 [0, 1, 2, 3, 4, 5, 6, 7, 8, 9] rfl (by kernel_rfl) whole_blind CG.out C0.out (by decide +kernel) ?_
      change wpQuiet _ _ _ _ (_ :: _ :: _ :: _ :: _ :: _ :: _ :: _ :: _ :: _ :: []) _
      repeat (first
        | go_big_quiet_skip
        | (go_big_quiet_want
           first
           | (refine q_cell 67 (by simp) (.tmp 41) rfl g 1 rfl _ F1.out ?_
              simp only [Act.put, List.setIfInBounds_toArray, List.set_cons_zero, List.set_cons_succ]
              go_big_quiet_on)
           | (go_big_quiet_op
              go_big_quiet_on)))
      refine wpQuiet_nil ?_
      refine one_ofR 0 rfl [10] (by decide +kernel) (by simp) fun j hj => ?_
      obtain rfl := List.mem_singleton.1 hj
      refine ⟨_, rfl, (by rfl), fun y7 hy7 K hK => ?_⟩
      have HG7 : Hid (Blk y7 g 70 [.slice (some ⟨b, 0, none⟩) n c, .int .u64 (dm : Int), mv]) := HG2.out.below (CE.out _ (CG.out _ _ C0.out hy7)) HG2.out.lt
      have HW7 : Hid (Below w2.heap.size w2 y7) := CE.out _ (CG.out _ _ C0.out hy7)
      clear hy7
      have e5 : bits .or .u64 (dm : Int) (IntKind.u64.wrap (2 ^ k)) = ((dm ||| 2 ^ k : Nat) : Int) := or_u64 dm k HM.out.dm64 (by omega)
      refine oper_one 67 (.tmp 48) (.tmp 46) rfl g 1 70 _ (.int .u64 ((dm ||| 2 ^ k : Nat) : Int)) rfl (congrArg (Value.int IntKind.u64) e5) rfl rfl (by show 1 < 3; decide) HG7.out s67 ?_
      intro y8 B8 G8
      refine hK _ _ (.inl (by simp)) ?_
      clear hK K
      simp only [Act.put, List.setIfInBounds_toArray, List.set_cons_zero, List.set_cons_succ]
      have HF : Hid (Cat y8 (Nw S w y8) g (dropA (strip (X ++ (⟨nm, fs, gn⟩, .slice fa fs.length fc) :: Y)) ((k : Int) + 1)) ∧ Upd S w y8) := by
        rw [HQ.out]
        have hgb : g ≠ b := fun e => tag_ne HM.out.row HM.out.blk (by decide) (by rw [e]; rfl)
        have u8 : Upd (fun x => x = g ∨ (Value.slice (some ⟨b, 0, none⟩) (X ++ ((⟨nm, fs, gn⟩, .slice fa fs.length fc) : TV) :: Y).length c).ownBlock = some x ∨ (Value.slice fa fs.length fc).ownBlock = some x ∨ mv = .map (some x)) w y8 := by
          have u1 := HMX.out.1.mono (S' := fun x => x = g ∨ (Value.slice (some ⟨b, 0, none⟩) (X ++ ((⟨nm, fs, gn⟩, .slice fa fs.length fc) : TV) :: Y).length c).ownBlock = some x ∨ (Value.slice fa fs.length fc).ownBlock = some x ∨ mv = .map (some x)) (fun x hx _ => .inr (.inr (.inr hx)))
          have u2 := u1.trans (Upd.of_by HU2.out (S := fun x => x = b) (fun x hx => (Option.some.inj hx).symm)) (fun x hx _ => .inr (.inl (by rw [hx]; rfl)))
          have u3 := u2.trans (Upd.of_below Non HW7.out) (fun x q => q.elim)
          exact u3.trans (Upd.of_by G8 (S := fun x => x = g) (fun x hx => (Option.some.inj hx).symm)) (fun x hx _ => .inl hx)
        have b8 : Blk y8 b 87 (tbs X ++ (.string nm :: .slice none 0 0 :: (tbs Y ++ sp))) := (HB2.out.below HW7.out HB2.out.lt).kept G8 (fun e => hgb (Option.some.inj e).symm)
        have r8 : y8.ownsRow 0 87 2 (.slice (some ⟨b, 0, none⟩) (X ++ ((⟨nm, fs, gn⟩, .slice fa fs.length fc) : TV) :: Y).length c) (X ++ ((⟨nm, fs, gn⟩, .slice fa fs.length fc) : TV) :: Y).length (tbs (X ++ (⟨nm, [], true⟩, .slice none 0 0) :: Y)) := by
          have e1 : tbs (X ++ ((⟨nm, [], true⟩, .slice none 0 0) : TV) :: Y) ++ sp = tbs X ++ (.string nm :: .slice none 0 0 :: (tbs Y ++ sp)) := by rw [tbs_app, tbs_cons]; simp
          have e2 := HCL.out.1
          refine val_row (sp := sp) (by rw [e1]; exact b8) (by rw [HN.out]; exact HCL.out.2.2) ?_ HCL.out.2.1 ?_
          · rw [← e2]; simp [tbs_len]
          · rw [tbs_len]; simp
        have g8 : Blk y8 g 70 [.slice (some ⟨b, 0, none⟩) (X ++ ((⟨nm, fs, gn⟩, .slice fa fs.length fc) : TV) :: Y).length c, .int .u64 ((dm ||| 2 ^ k : Nat) : Int), mv] := by rw [HN.out]; exact B8
        have m8 : MapS y8 mv (fun i t => hasB (strip (X ++ (⟨nm, [], true⟩, .slice none 0 0) :: Y)) i t = true) := ((HMAP.out.upd (Upd.of_below Non HW7.out) (fun _ _ q => q)).upd (Upd.of_by G8 (S := fun x => x = g) (fun x hx => (Option.some.inj hx).symm)) (fun x hx e => hgm (by rw [hx, e])))
        have hok := HM.out.ok.ok ⟨nm, fs, gn⟩ (by simp [strip])
        refine ⟨⟨_, dm ||| 2 ^ k, mv, _, HM.out.changed (p' := (⟨nm, [], true⟩, .slice none 0 0)) u8 g8 r8 (World.ownsRow_nil _ _ _ _) (fun x hx => by cases hx) m8 (fun i => ?_) ⟨hok.name, by simp, by simp, by simp⟩, rfl, HI.out.put (fun x hx => .inl hx) (fun x hx => by cases hx) (fun x hx => .inl (HI.out.map x hx))⟩, u8.mono (fun x hx _ => ?_)⟩
        · have e1 := gone_drop (A := strip X) (B := strip Y) (t := ⟨nm, fs, gn⟩) ((i : Int) + 1)
          have e2 := HM.out.bits i
          have e3 : strip (X ++ ((⟨nm, [], true⟩, .slice none 0 0) : TV) :: Y) = strip X ++ ⟨nm, [], true⟩ :: strip Y := by simp [strip]
          have e4 : strip (X ++ ((⟨nm, fs, gn⟩, .slice fa fs.length fc) : TV) :: Y) = strip X ++ ⟨nm, fs, gn⟩ :: strip Y := by simp [strip]
          rw [e4] at e2
          rw [e3, or_bit, e1, strip_len, HX.out, e2]
          by_cases hik : i = k
          · rw [if_pos hik, if_pos (by omega)]
          · rw [if_neg hik, if_neg (by omega)]
        · rcases hx with rfl | e | e | e
          · exact HI.out.g
          · exact HI.out.tv x e
          · exact HI.out.fld _ hmem x e
          · exact HI.out.map x e
      clear B8 G8 HG7 HW7 HM HI HMX HMAP HU2 HB2 HG2
      refine doneR (by kernel_rfl) fun y9 hy => ?_
      have HF9 : Hid (Cat y9 (Nw S w y9) g (dropA (strip (X ++ (⟨nm, fs, gn⟩, .slice fa fs.length fc) :: Y)) ((k : Int) + 1)) ∧ Upd S w y9) :=
        ⟨(HF.out.1.below hy).mono (fun x hx => hx.imp id (fun q => ⟨q.1, Nat.lt_of_lt_of_le q.2 hy.size⟩)), HF.out.2.trans (Upd.of_below Non hy) (fun x q => q.elim)⟩
      clear hy HF
      go_wp2
      go_ret
      exact ⟨rfl, HF9.out⟩
#print axioms drop_in
end Go.Proofs.Ytbkogaencjmmgaa
