/-
  The document's own catalog in memory; what only reads it.
-/
import Derived.Test.YtbkogaencjmmgaaCr
namespace Go.Proofs.Ytbkogaencjmmgaa
open Go.RowKit Go.MapKept
set_option linter.unusedVariables false
set_option linter.unusedSimpArgs false
structure RM (w : World) (g : Nat) (lv : Value) (L : List TV) : Prop where
  blk : Blk w g 30 [lv]
  row : w.ownsRow 0 50 4 lv L.length (alC 0 L)
  fld : ∀ p ∈ L, w.ownsRow 0 9 1 p.2 p.1.fs.length (sts p.1.fs)
  ok : OkA (strip L)
structure InR (S : Nat → Prop) (g : Nat) (lv : Value) (L : List TV) : Prop where
  g : S g
  lv : ∀ x, lv.ownBlock = some x → S x
  fld : ∀ p ∈ L, ∀ x, p.2.ownBlock = some x → S x
def Rfc (w : World) (S : Nat → Prop) (g : Nat) (A : List Tb) : Prop := ∃ lv L, RM w g lv L ∧ strip L = A ∧ InR S g lv L
theorem RM.upd {S R : Nat → Prop} {w w' : World} {g : Nat} {lv : Value} {L : List TV} (h : RM w g lv L) (u : Upd S w w') (i : InR R g lv L) (hd : ∀ x, R x → ¬ S x) : RM w' g lv L :=
  ⟨h.blk.upd u (hd _ i.g), own_upd h.row u (fun x hx => hd _ (i.lv x hx)), fun p hp => own_upd (h.fld p hp) u (fun x hx => hd _ (i.fld p hp x hx)), h.ok⟩
theorem Rfc.upd {S R : Nat → Prop} {w w' : World} {g : Nat} {A : List Tb} (h : Rfc w R g A) (u : Upd S w w') (hd : ∀ x, R x → ¬ S x) : Rfc w' R g A := by
  obtain ⟨lv, L, h1, h2, h3⟩ := h
  exact ⟨lv, L, h1.upd u h3 hd, h2, h3⟩
theorem InR.mono {S S' : Nat → Prop} {g : Nat} {lv : Value} {L : List TV} (h : InR S g lv L) (hs : ∀ x, S x → S' x) : InR S' g lv L := ⟨hs _ h.g, fun x hx => hs _ (h.lv x hx), fun p hp x hx => hs _ (h.fld p hp x hx)⟩
theorem Rfc.mono {S S' : Nat → Prop} {w : World} {g : Nat} {A : List Tb} (h : Rfc w S g A) (hs : ∀ x, S x → S' x) : Rfc w S' g A := by
  obtain ⟨lv, L, h1, h2, h3⟩ := h
  exact ⟨lv, L, h1, h2, h3.mono hs⟩
theorem InR.all (g : Nat) (lv : Value) (L : List TV) : InR (fun _ => True) g lv L := ⟨trivial, fun _ _ => trivial, fun _ _ _ _ => trivial⟩
theorem RM.below {w w' : World} {g : Nat} {lv : Value} {L : List TV} (h : RM w g lv L) (b : Below w.heap.size w w') : RM w' g lv L := h.upd (Upd.of_below Non b) (InR.all _ _ _) (fun _ _ q => q)
theorem Rfc.below {R : Nat → Prop} {w w' : World} {g : Nat} {A : List Tb} (h : Rfc w R g A) (b : Below w.heap.size w w') : Rfc w' R g A := h.upd (Upd.of_below Non b) (fun _ _ q => q)
theorem rt_rng {T : TypeId} {w : World} {b : Nat} {M : List TV} {sp : List Value} (h : Blk w b T (alC 0 M ++ sp)) {k : Nat} {p : TV} (hk : M[k]? = some p) : w.rangeAt b (k * 4) (tlC ((k : Int) + 1) p.1.name p.1.gone p.2) := by
  obtain ⟨X, Y, e, hX⟩ := alC_at hk sp 0
  rw [e] at h
  have := h.range
  rw [hX, Nat.zero_add] at this
  exact this
/-- The row of the document's tables. -/
theorem RM.val {w : World} {g : Nat} {lv : Value} {L : List TV} (h : RM w g lv L) : ∃ a c, lv = .slice a L.length c ∧ (L.length = 0 ∨ ∃ b sp, a = some ⟨b, 0, none⟩ ∧ Blk w b 50 (alC 0 L ++ sp) ∧ (alC 0 L ++ sp).length = c * 4 ∧ c ≤ maxLen ∧ L.length ≤ c) := by
  obtain ⟨a, c, e, h1, h2⟩ := row_val h.row
  refine ⟨a, c, e, ?_⟩
  rcases h2 with ⟨h0, _⟩ | ⟨b, sp, e1, e2, e3, e4⟩
  · exact .inl h0
  · exact .inr ⟨b, sp, e1, e2, e3, e4, h1⟩
theorem rname_any (s : ByteArray) (w : World) : Calls Try.prog 25 #[.string s] w fun e w' => e = .returned (.bool (nameB s)) ∧ w' = w := by
  unfold nameB
  obtain ⟨n, hn⟩ : ∃ n, s.size = n := ⟨_, rfl⟩
  rw [hn]
  by_cases h0 : n = 0
  · have h0' : ¬ (n : Int) ≥ 1 := by omega
    go_enter Try.func25, Try.ntmps25
    go_wp2
    go_ret
    exact ⟨by simp [h0], rfl⟩
  · have h0' : (n : Int) ≥ 1 := by omega
    by_cases h40 : n ≤ 40
    · have h40' : (n : Int) ≤ 40 := by omega
      go_enter Try.func25, Try.ntmps25
      go_wp2
      go_ret
      exact ⟨by simp [h0, h40], rfl⟩
    · have h40' : ¬ (n : Int) ≤ 40 := by omega
      go_enter Try.func25, Try.ntmps25
      go_wp2
      go_ret
      exact ⟨by simp [h0, h40], rfl⟩
/-- Where there tells that a table is. -/
def thP (lv : Value) (A : List Tb) (id : Int) : Option Addr := if liveB A id = true then lv.ownBlock.map (fun b => ⟨b, (id - 1).toNat * 4, none⟩) else none
set_option maxRecDepth 8000 in
set_option maxHeartbeats 1000000 in
theorem rthere_any (g : Nat) (lv : Value) (L : List TV) (id : Int) (w : World) (h : RM w g lv L) : Calls Try.prog 26 #[.pointer (some ⟨g, 0, none⟩), .int .i64 id] w fun e w' => e = .returned (.pointer (thP lv (strip L) id)) ∧ w' = w := by
  have hl64 : L.length ≤ 64 := by have := h.ok.len; rw [strip_len] at this; exact this
  obtain ⟨a, c, rfl, hv⟩ := h.val
  have c0 : w.cell? ⟨g, 0, none⟩ = some (.slice a L.length c) := h.blk.cell 0
  obtain ⟨n, hn⟩ : ∃ n, L.length = n := ⟨_, rfl⟩
  have hth : thereB (strip L) id = (decide (1 ≤ id) && decide (id ≤ (n : Int))) := by unfold thereB; rw [strip_len, hn]
  by_cases h1 : id < 1
  · have e : thP (.slice a L.length c) (strip L) id = none := by
      unfold thP liveB
      rw [hth, if_neg (by simp; omega)]
    rw [e]
    rw [hn] at c0
    clear h hv hth e
    go_enter Try.func26, Try.ntmps26
    go_wp2
    go_ret
    exact ⟨rfl, rfl⟩
  by_cases h2 : id > (n : Int)
  · have e : thP (.slice a L.length c) (strip L) id = none := by
      unfold thP liveB
      rw [hth, if_neg (by simp; omega)]
    rw [e]
    rw [hn] at c0
    clear h hv hth e
    go_enter Try.func26, Try.ntmps26
    go_wp2
    go_ret
    exact ⟨rfl, rfl⟩
  obtain ⟨k, hk⟩ : ∃ k : Nat, id = (k : Int) + 1 := ⟨(id - 1).toNat, by omega⟩
  subst hk
  obtain ⟨p, hp⟩ : ∃ p, L[k]? = some p := ⟨_, List.getElem?_eq_getElem (by omega)⟩
  obtain ⟨b, sp, rfl, hb, _⟩ := hv.resolve_left (by omega)
  have hr := rt_rng hb hp
  have a2 : w.cell? ⟨b, k * 4 + 2, none⟩ = some (.bool p.1.gone) := hr 2 _ rfl
  have hgn : goneB (strip L) ((k : Int) + 1) = p.1.gone := by
    unfold goneB
    rw [tbl_nat]
    simp [strip, hp]
  have hlv : liveB (strip L) ((k : Int) + 1) = !p.1.gone := by
    unfold liveB
    rw [hth, hgn]
    simp
    omega
  have w1 : wrap64 ((k : Int) + 1 - 1) = (k : Int) := wrap_small (n := k) (by omega) (by omega)
  have hx1 : ¬ ((k : Int) < 0) := by omega
  have hx2 : ¬ ((n : Int) ≤ (k : Int)) := by omega
  have h2' : ¬ ((k : Int) + 1 > (n : Int)) := h2
  rw [hn] at c0
  have HE : Hid (thP (.slice (some ⟨b, 0, none⟩) L.length c) (strip L) ((k : Int) + 1) = if p.1.gone = true then none else some ⟨b, k * 4, none⟩) := by
    show _ = _
    unfold thP
    rw [hlv]
    cases p.1.gone with
    | true => rfl
    | false =>
      simp [Value.ownBlock]
  generalize p.1.gone = G at *
  have hn64 : n ≤ 64 := by omega
  have hkn : k < n := by omega
  rw [hn] at HE ⊢
  clear h hr hb hp hth hgn hlv hv hn hl64
  cases G with
  | true =>
    go_enter Try.func26, Try.ntmps26
    go_wp2
    go_ret
    exact ⟨by rw [HE.out]; rfl, rfl⟩
  | false =>
    go_enter Try.func26, Try.ntmps26
    go_wp2
    go_ret
    exact ⟨by rw [HE.out]; rfl, rfl⟩
theorem Txs.of {w : World} {p : TV} (h : w.ownsRow 0 9 1 p.2 p.1.fs.length (sts p.1.fs)) : Txs w p.2 p.1.fs := own_txs (n := 0) h
theorem sRt' (id : Int) (nm : ByteArray) (gn : Bool) (iv : Value) : (Try.prog.info? 50).map (·.size) = some (tlC id nm gn iv).length := by kernel_rfl
set_option maxRecDepth 8000 in
set_option maxHeartbeats 1000000 in
theorem rtable_any (S : Nat → Prop) (g : Nat) (A : List Tb) (id : Int) (w : World) (h : Rfc w S g A) :
    Calls Try.prog 15 #[.pointer (some ⟨g, 0, none⟩), .int .i64 id] w fun e w' => ∃ fv, e = .returned (rV (tabR A id) fv) ∧ Hid (Txs w' fv (tabR A id).2.1.fs ∧ Below w.heap.size w w') := by
  obtain ⟨lv, L, hM, rfl, hI⟩ := h
  have HM : Hid (RM w g lv L) := hM
  have hl64 : L.length ≤ 64 := by have := hM.ok.len; rw [strip_len] at this; exact this
  obtain ⟨a, c, rfl, hv⟩ := hM.val
  obtain ⟨n, hn⟩ : ∃ n, L.length = n := ⟨_, rfl⟩
  have HN : Hid (L.length = n) := hn
  have hn64 : n ≤ 64 := by omega
  rw [hn] at hv
  clear hM hI hl64 hn
  go_enter Try.func15, Try.ntmps15
  go_wp2_with (refine al_zero rfl 50 rfl _ sTb4 ?_)
  intro g4 w1 l1 B4 G1
  have hb1 : Below w.heap.size w w1 := below_none (Below.refl _ _) (Nat.le_refl _) G1
  have HB1 : Hid (Below w.heap.size w w1) := hb1
  have H4 : Hid (Blk w1 g4 50 (tlC 0 ⟨#[]⟩ false (.slice none 0 0))) := B4
  have HM1 : Hid (RM w1 g (.slice a L.length c) L) := HM.out.below hb1
  have c0 : w1.cell? ⟨g, 0, none⟩ = some (.slice a n c) := by rw [← HN.out]; exact HM1.out.blk.cell 0
  clear hb1 B4 G1
  by_cases h1 : id < 1
  · have HQ : Hid (tabR (strip L) id = (0, zT, 7)) := by
      show _ = _
      unfold tabR tbl
      rw [if_neg (by omega)]
    go_wp2_with (refine st_all rfl 50 (.tmp 4) (.tmp 17) rfl g4 50 _ (tlC 0 ⟨#[]⟩ false (.slice none 0 0)) rfl rfl H4.out rfl (sRt' _ _ _ _) (tl_one rfl) ?_)
    intro w3 B3 G3
    have HB3 : Hid (Below w.heap.size w w3) := HB1.out.grown G3 HB1.out.size (fun r e => by injection e with e; subst e; exact l1)
    have H43 : Hid (Blk w3 g4 50 (tlC 0 ⟨#[]⟩ false (.slice none 0 0))) := B3
    clear B3 G3
    go_wp2
    refine bodyPost_ret (res_two rfl _ g4 50 _ _ rfl H43.out Try.underlying50 rfl (sRt' _ _ _ _)) rfl ?_
    refine ⟨.slice none 0 0, by rw [HQ.out]; rfl, ?_, HB3.out⟩
    rw [HQ.out]
    exact txs_nil _
  by_cases h2 : id > (n : Int)
  · have HQ : Hid (tabR (strip L) id = (0, zT, 7)) := by
      show _ = _
      unfold tabR tbl
      rw [if_pos (by omega), List.getElem?_eq_none (by rw [strip_len, HN.out]; omega)]
    go_wp2_with (refine st_all rfl 50 (.tmp 4) (.tmp 17) rfl g4 50 _ (tlC 0 ⟨#[]⟩ false (.slice none 0 0)) rfl rfl H4.out rfl (sRt' _ _ _ _) (tl_one rfl) ?_)
    intro w3 B3 G3
    have HB3 : Hid (Below w.heap.size w w3) := HB1.out.grown G3 HB1.out.size (fun r e => by injection e with e; subst e; exact l1)
    have H43 : Hid (Blk w3 g4 50 (tlC 0 ⟨#[]⟩ false (.slice none 0 0))) := B3
    clear B3 G3
    go_wp2
    refine bodyPost_ret (res_two rfl _ g4 50 _ _ rfl H43.out Try.underlying50 rfl (sRt' _ _ _ _)) rfl ?_
    refine ⟨.slice none 0 0, by rw [HQ.out]; rfl, ?_, HB3.out⟩
    rw [HQ.out]
    exact txs_nil _
  obtain ⟨k, hk⟩ : ∃ k : Nat, id = (k : Int) + 1 := ⟨(id - 1).toNat, by omega⟩
  subst hk
  obtain ⟨⟨⟨nm, fs, gn⟩, fv⟩, hp⟩ : ∃ p, L[k]? = some p := ⟨_, List.getElem?_eq_getElem (by rw [HN.out]; omega)⟩
  have HQ : Hid (tabR (strip L) ((k : Int) + 1) = ((k : Int) + 1, ⟨nm, fs, gn⟩, 0)) := by
    show _ = _
    unfold tabR
    rw [tbl_nat]
    simp [strip, hp]
  have hfv : ∃ fa fc, fv = .slice fa fs.length fc := by
    obtain ⟨fa, fc, e, _⟩ := row_val (HM1.out.fld _ (List.mem_of_getElem? hp))
    exact ⟨fa, fc, e⟩
  obtain ⟨fa, fc, rfl⟩ := hfv
  have HT1 : Hid (w1.ownsRow 0 9 1 (.slice fa fs.length fc) fs.length (sts fs)) := HM1.out.fld _ (List.mem_of_getElem? hp)
  obtain ⟨b, sp, rfl, hb, _⟩ := hv.resolve_left (by omega)
  have HR : Hid (w1.rangeAt b (k * 4) (tlC ((k : Int) + 1) nm gn (.slice fa fs.length fc))) := rt_rng (hb.below HB1.out hb.lt) hp
  have w1e : wrap64 ((k : Int) + 1 - 1) = (k : Int) := wrap_small (n := k) (by omega) (by omega)
  have hx1 : ¬ ((k : Int) < 0) := by omega
  have hx2 : ¬ ((n : Int) ≤ (k : Int)) := by omega
  have h2' : ¬ ((k : Int) + 1 > (n : Int)) := h2
  have h1' : ¬ ((k : Int) + 1 < 1) := h1
  clear hp hb hv HM HM1
  go_wp2_with (first | (refine ld_w rfl 50 (.tmp 24) rfl b (k * 4) (by first | rfl | simp) _ _ HR.out Try.underlying50 rfl (sRt' _ _ _ _) ?_) | (refine st_all rfl 50 (.tmp 4) (.tmp 25) rfl g4 50 _ (tlC ((k : Int) + 1) nm gn (.slice fa fs.length fc)) rfl rfl H4.out rfl (sRt' _ _ _ _) (tl_one rfl) ?_))
  intro w4 B4 G4
  have HF : Hid (Txs w4 (.slice fa fs.length fc) fs ∧ Below w.heap.size w w4) :=
    ⟨own_txs (n := 0) (HT1.out.kept G4 (.inr (fun e => tag_ne HT1.out H4.out (by decide) e))), HB1.out.grown G4 HB1.out.size (fun r e => by injection e with e; subst e; exact l1)⟩
  have H44 : Hid (Blk w4 g4 50 (tlC ((k : Int) + 1) nm gn (.slice fa fs.length fc))) := B4
  clear B4 G4 HT1 HB1 H4
  go_wp2
  refine bodyPost_ret (res_two rfl _ g4 50 _ _ rfl H44.out Try.underlying50 rfl (sRt' _ _ _ _)) rfl ?_
  refine ⟨.slice fa fs.length fc, by rw [HQ.out]; rfl, ?_⟩
  rw [HQ.out]
  exact HF.out
set_option maxRecDepth 8000 in
set_option maxHeartbeats 1000000 in
theorem rhas_any (S : Nat → Prop) (g : Nat) (A : List Tb) (id : Int) (s : ByteArray) (w : World) (h : Rfc w S g A) :
    Calls Try.prog 18 #[.pointer (some ⟨g, 0, none⟩), .int .i64 id, .string s] w fun e w' => e = .returned (.bool (hasB A id s)) ∧ w' = w := by
  obtain ⟨lv, L, hM, rfl, hI⟩ := h
  have HM : Hid (RM w g lv L) := hM
  have hl64 : L.length ≤ 64 := by have := hM.ok.len; rw [strip_len] at this; exact this
  have K := rthere_any g lv L id w hM
  obtain ⟨a, c, rfl, hv⟩ := hM.val
  clear hM hI
  cases hlv : liveB (strip L) id with
  | false =>
    have HE : Hid (hasB (strip L) id s = false) := by
      show _ = _
      unfold hasB
      cases ht : tbl (strip L) id with
      | none => rfl
      | some t =>
        have hth : thereB (strip L) id = true := by
          unfold tbl at ht
          by_cases h1 : 1 ≤ id
          · rw [if_pos h1] at ht
            have := (List.getElem?_eq_some_iff.1 ht).1
            unfold thereB
            simp
            omega
          · rw [if_neg h1] at ht; cases ht
        have hg : t.gone = true := by
          unfold liveB goneB at hlv
          rw [hth, ht] at hlv
          simpa using hlv
        have hm : t ∈ strip L := by
          unfold tbl at ht
          by_cases h1 : 1 ≤ id
          · rw [if_pos h1] at ht
            exact List.mem_of_getElem? ht
          · rw [if_neg h1] at ht; cases ht
        have h9 := (HM.out.ok.ok t hm).gone hg
        show t.fs.any _ = false
        rw [h9]; rfl
    have e : thP (.slice a L.length c) (strip L) id = none := by unfold thP; rw [if_neg (by rw [hlv]; decide)]
    rw [e] at K
    clear hv hlv e
    go_enter Try.func18, Try.ntmps18
    go_wp2_with (go_at_call 26; refine K.mono ?_; clear K; rintro e w2 ⟨rfl, hw⟩; have hw' := hw.symm; subst hw'; clear hw)
    go_loopw [8] (fun i wr => i = .int .i64 0 ∧ wr = w) (fun _ _ => 0)
    case atStart => exact ⟨rfl, rfl⟩
    case round =>
      obtain ⟨rfl, rfl⟩ := hrel
      go_wp2
      go_ret
      exact ⟨by rw [HE.out]; rfl, rfl⟩
  | true =>
    have hth : thereB (strip L) id = true := by have := hlv; unfold liveB at this; simp only [Bool.and_eq_true] at this; exact this.1
    simp only [thereB, Bool.and_eq_true, decide_eq_true_eq, strip_len] at hth
    obtain ⟨k, hk⟩ : ∃ k : Nat, id = (k : Int) + 1 := ⟨(id - 1).toNat, by omega⟩
    subst hk
    obtain ⟨⟨⟨nm, fs, gn⟩, fv⟩, hp⟩ : ∃ p, L[k]? = some p := ⟨_, List.getElem?_eq_getElem (by omega)⟩
    obtain ⟨b, sp, rfl, hb, _⟩ := hv.resolve_left (by omega)
    have e : thP (.slice (some ⟨b, 0, none⟩) L.length c) (strip L) ((k : Int) + 1) = some ⟨b, k * 4, none⟩ := by
      unfold thP
      rw [if_pos hlv]
      simp [Value.ownBlock]
    rw [e] at K
    have HE : Hid (hasB (strip L) ((k : Int) + 1) s = fs.any (fun x => bq x s)) := by
      show _ = _
      unfold hasB
      rw [tbl_nat]
      simp [strip, hp]
    obtain ⟨fa, fc, hfv, hfa⟩ := Txs.of (HM.out.fld _ (List.mem_of_getElem? hp))
    have hfv' : fv = .slice fa fs.length fc := hfv
    subst hfv'
    have hr := rt_rng hb hp
    have a3 : w.cell? ⟨b, k * 4 + 3, none⟩ = some (.slice fa fs.length fc) := hr 3 _ rfl
    have HFA : Hid (fs = [] ∨ ∃ b, fa = some ⟨b, 0, none⟩ ∧ ∀ q s, fs[q]? = some s → w.cell? ⟨b, q, none⟩ = some (.string s)) := hfa
    have hm16 : fs.length ≤ 16 := by
      have := HM.out.ok.ok ⟨nm, fs, gn⟩ (by simp only [strip, List.mem_map]; exact ⟨_, List.mem_of_getElem? hp, rfl⟩)
      exact this.len
    obtain ⟨m, hm⟩ : ∃ m, fs.length = m := ⟨_, rfl⟩
    have HFM : Hid (fs.length = m) := hm
    rw [hm] at a3 hm16
    clear hp hb hv hr hfa hfv hlv hth e hm HM
    go_enter Try.func18, Try.ntmps18
    go_wp2_with (go_at_call 26; refine K.mono ?_; clear K; rintro e w2 ⟨rfl, hw⟩; have hw' := hw.symm; subst hw'; clear hw)
    go_loopw [8] (fun i wr => ∃ q : Nat, q ≤ m ∧ i = .int .i64 (q : Int) ∧ wr = w ∧ Hid (fs.any (fun x => bq x s) = (fs.drop q).any (fun x => bq x s))) (fun i _ => m - (intOf i).toNat)
    case atStart => exact ⟨0, by omega, rfl, rfl, rfl⟩
    case round =>
      obtain ⟨q, hq, rfl, rfl, HD⟩ := hrel
      by_cases hlt : q < m
      case neg =>
        have hlt' : ¬ (q : Int) < (m : Int) := by omega
        have HZ : Hid (hasB (strip L) ((k : Int) + 1) s = false) := by
          show _ = _
          rw [HE.out, HD.out, List.drop_of_length_le (by rw [HFM.out]; omega)]
          rfl
        go_wp2
        go_ret
        exact ⟨by rw [HZ.out]; rfl, rfl⟩
      have hlt' : (q : Int) < (m : Int) := by omega
      obtain ⟨x, hx⟩ : ∃ x, fs[q]? = some x := ⟨_, List.getElem?_eq_getElem (by rw [HFM.out]; exact hlt)⟩
      have hne : fs ≠ [] := fun e => by have := HFM.out; rw [e] at this; simp at this; omega
      obtain ⟨bf, rfl, hf⟩ := HFA.out.resolve_left hne
      have cf := hf q x hx
      have HD2 : Hid ((fs.drop q).any (fun y => bq y s) = (bq x s || (fs.drop (q + 1)).any (fun y => bq y s))) := by
        show _ = _
        obtain ⟨hl, e⟩ := List.getElem?_eq_some_iff.1 hx
        rw [List.drop_eq_getElem_cons hl, e]
        rfl
      have hx1 : ¬ ((q : Int) < 0) := by omega
      have hx2 : ¬ ((m : Int) ≤ (q : Int)) := by omega
      clear hne hf hx HFA
      cases hq2 : bq x s with
      | true =>
        have hxs : x.toList = s.toList := beq_iff_eq.1 hq2
        have HZ : Hid (hasB (strip L) ((k : Int) + 1) s = true) := by show _ = _; rw [HE.out, HD.out, HD2.out, hq2]; rfl
        clear hq2
        go_wp2
        go_ret
        exact ⟨by rw [HZ.out]; rfl, rfl⟩
      | false =>
        have hxs' : (x.toList == s.toList) = false := hq2
        have hxs : ¬ x.toList = s.toList := by simpa using hxs'
        have HZ : Hid (fs.any (fun x => bq x s) = (fs.drop (q + 1)).any (fun x => bq x s)) := by show _ = _; rw [HD.out, HD2.out, hq2]; rfl
        clear hq2
        go_wp2
        go_roundw
        case rel => exact ⟨q + 1, by omega, by go_num, by first | rfl | trivial, HZ.out⟩
        case measure => simp [intOf]; omega
#print axioms rthere_any
#print axioms rtable_any
#print axioms rhas_any
end Go.Proofs.Ytbkogaencjmmgaa
