/-
  Tree: find, raise, add.
-/
import Derived.Test.YteokjfpppmnebaaPf
namespace Go.Proofs.Yteokjfpppmnebaa
open Go.RowKit
set_option linter.unusedVariables false
set_option linter.unusedSimpArgs false
set_option maxHeartbeats 1000000 in
theorem find_any (g : Nat) (l : Nat) (t : B) (n nd : Nat) (nx : Option Nat) (rd : Int) (key : ByteArray) (w : World) (h : Blk w g 55 (tC (some t.bk) n nd)) (hM : Mem w l t nx rd) (ho : Ok l t) (b : Nat) (es : List E) (hl : lfn l t key = .lf b es) (p : Option Nat) (hp : p = if hit (es.map sE) key = true then some (sk (es.map sE) key) else none) :
    Calls Try.prog 26 #[.pointer (some ⟨g, 0, none⟩), .string key] w fun e w' => e = .returned (.pointer (p.map fun i => ⟨b, 2 + i * 3, none⟩)) ∧ Hid (Below w.heap.size w w') := by
  have c0 : w.cell? ⟨g, 0, none⟩ = some (.pointer (some ⟨t.bk, 0, none⟩)) := h.cell 0
  have KL := leaf_any l t nx rd key w hM ho
  obtain ⟨b', es', nx', rd', h1, h2, h3⟩ := lfn_mem key hM ho
  rw [hl] at h1
  injection h1 with e1 e2
  subst e1 e2
  rw [hl] at KL
  rw [show (B.lf b es).bk = b from rfl] at KL
  have HN : Hid (Nd w b 0 (es.map sE) nx' rd') := h2
  obtain ⟨b0, hb0⟩ : ∃ b0, t.bk = b0 := ⟨_, rfl⟩
  rw [hb0] at c0 KL
  obtain ⟨ss, hss⟩ : ∃ ss, es.map sE = ss := ⟨_, rfl⟩
  rw [hss] at HN hp
  have HR : Hid (hit ss key = true → sk ss key < 16) := fun q => Nat.lt_of_lt_of_le (hit_lt q) HN.out.le
  have HP : Hid (p = if hit ss key = true then some (sk ss key) else none) := hp
  obtain ⟨R, HRR⟩ : ∃ R, Hid (sk ss key = R) := ⟨_, rfl⟩
  obtain ⟨T, HTT⟩ : ∃ T, Hid (hit ss key = T) := ⟨_, rfl⟩
  rw [HRR.out, HTT.out] at HR HP
  clear h hM hp hl ho h2 h3 hb0 hss
  go_enter Try.func26, Try.ntmps26
  go_wp2_with fail
  refine KL.mono ?_
  clear KL
  rintro e w1 ⟨rfl, H1⟩
  have KS := seek_any b 0 ss nx' rd' key w1 (HN.out.below H1.out HN.out.lt)
  rw [HRR.out, HTT.out] at KS
  clear HRR HTT HN
  go_wp2_with fail
  refine KS.mono ?_
  clear KS
  rintro e w2 ⟨rfl, H⟩
  have HF : Hid (Below w.heap.size w w2) := H1.out.trans (H.out.mono H1.out.size)
  clear H H1
  cases T with
  | false =>
    obtain rfl : p = none := by have := HP.out; simpa using this
    clear HP HR
    go_wp2
    go_ret
    exact ⟨rfl, HF.out⟩
  | true =>
    have hR : R < 16 := HR.out rfl
    obtain rfl : p = some R := by have := HP.out; simpa using this
    clear HP HR
    have h1 : ¬ ((R : Int) < 0) := by omega
    have h3 : (R : Int) < 16 := by omega
    go_wp2
    go_ret
    exact ⟨rfl, HF.out⟩
/-! ### a new root -/
set_option maxRecDepth 8000 in
set_option maxHeartbeats 1000000 in
theorem raise_any (g l : Nat) (t q : B) (n nd : Nat) (hnd : nd < 1000000000) (hl : l < 1000000000) (w : World) (hT : Blk w g 55 (tC (some t.bk) n nd)) (hM : Mem w l t (some (fsl l q)) 0) (hQ : Mem w l q none 0) (ht : 0 < t.cnt) (hq : 0 < q.cnt) (hg : g ∉ fps l t ++ fps l q) :
    Calls Try.prog 46 #[.pointer (some ⟨g, 0, none⟩), .pointer (some ⟨q.bk, 0, none⟩)] w fun e w' => e = .returned (.tuple #[]) ∧ Hid (∃ rb, Blk w' g 55 (tC (some rb) n (nd + 1)) ∧ Mem w' (l + 1) (.nd rb [(t.lt0, t), (q.lt0, q)]) none 0 ∧ w.heap.size ≤ rb ∧ Upd [g] w w') := by
  obtain ⟨tb, Htb⟩ : ∃ tb, Hid (t.bk = tb) := ⟨_, rfl⟩
  obtain ⟨qb, Hqb⟩ : ∃ qb, Hid (q.bk = qb) := ⟨_, rfl⟩
  rw [Htb.out] at hT
  rw [Hqb.out]
  obtain ⟨lv, HLV⟩ : ∃ lv : Int, Hid (((l + 1 : Nat) : Int) = lv) := ⟨_, rfl⟩
  have e1 : wrap64 ((l : Int) + 1) = lv := by rw [← HLV.out]; exact wrap_small (by omega) (by omega)
  have e1' : (l : Int) + 1 = lv := by rw [← HLV.out]; omega
  have HM : Hid (∀ W, Upd [] w W → Mem W l t (some (fsl l q)) 0 ∧ Mem W l q none 0) := fun W u => ⟨hM.upd u (by simp), hQ.upd u (by simp)⟩
  have HT : Hid (Blk w g 55 (tC (some tb) n nd)) := hT
  have HC : Hid (0 < t.cnt ∧ 0 < q.cnt ∧ g ∉ fps l t ++ fps l q) := ⟨ht, hq, hg⟩
  have HX : Hid (∀ x ∈ fps l t ++ fps l q, x < w.heap.size) := fun x hx => (List.mem_append.1 hx).elim (hM.lt x) (hQ.lt x)
  have c0 : w.cell? ⟨g, 0, none⟩ = some (.pointer (some ⟨tb, 0, none⟩)) := hT.cell 0
  have cl : w.cell? ⟨tb, 0, none⟩ = some (.int .i64 (l : Int)) := by have := hM.nd.level; rw [Htb.out] at this; exact this
  have K := grow_any g (some tb) n nd hnd lv w hT
  have hgl := hT.lt
  clear hT hM hQ ht hq hg
  go_enter Try.func46, Try.ntmps46
  go_wp2_with fail
  refine K.mono ?_
  clear K
  rintro e w1 ⟨rb, rfl, H⟩
  obtain ⟨h1, h2, h3, h4⟩ := H.out
  have c1 : w1.cell? ⟨g, 0, none⟩ = some (.pointer (some ⟨tb, 0, none⟩)) := h1.cell 0
  have HT1 : Hid (Blk w1 g 55 (tC (some tb) n (nd + 1))) := h1
  have HR1 : Hid (Nd w1 rb lv [] none 0) := h2
  have hrb : w.heap.size ≤ rb := h3
  have HU1 : Hid (Upd [g] w w1) := Upd.of_by h4
  have hgr : g ≠ rb := by omega
  clear h1 h2 h3 h4 H HT c0 cl
  go_wp2
  have HS : Hid (Blk (w1.alloc (.cells #[.pointer (some ⟨tb, 0, none⟩), .pointer (some ⟨qb, 0, none⟩)] 53)) w1.heap.size 53 [.pointer (some ⟨tb, 0, none⟩), .pointer (some ⟨qb, 0, none⟩)]) := blk_new w1 _ [_, _]
  have HT2 : Hid (Blk (w1.alloc (.cells #[.pointer (some ⟨tb, 0, none⟩), .pointer (some ⟨qb, 0, none⟩)] 53)) g 55 (tC (some tb) n (nd + 1))) := HT1.out.alloc _
  have HR2 : Hid (Nd (w1.alloc (.cells #[.pointer (some ⟨tb, 0, none⟩), .pointer (some ⟨qb, 0, none⟩)] 53)) rb lv [] none 0) := ⟨HR1.out.blk.alloc _, HR1.out.le⟩
  have HU2 : Hid (Upd [g] w (w1.alloc (.cells #[.pointer (some ⟨tb, 0, none⟩), .pointer (some ⟨qb, 0, none⟩)] 53))) := HU1.out.trans (Upd.of_none [] (World.grownBy_alloc _ _ none)) (by simp)
  have hrs : rb ≠ w1.heap.size := by have := HR1.out.lt; omega
  obtain ⟨gs, hgs⟩ : ∃ gs, w1.heap.size = gs := ⟨_, rfl⟩
  rw [hgs] at HS hrs ⊢
  clear hgs HT1 HR1 HU1 c1
  generalize w1.alloc (.cells #[.pointer (some ⟨tb, 0, none⟩), .pointer (some ⟨qb, 0, none⟩)] 53) = w2 at *
  have HM2 : Hid (∀ W, Upd [rb] w2 W → Mem W l t (some (fsl l q)) 0 ∧ Mem W l q none 0) := fun W u => by
    have hd : ∀ x ∈ fps l t ++ fps l q, x ∉ [g] := fun x hx e => HC.out.2.2 (by rw [← List.mem_singleton.1 e]; exact hx)
    have hr : ∀ x ∈ fps l t ++ fps l q, x ∉ [rb] := fun x hx e => by have := HX.out x hx; have := List.mem_singleton.1 e; omega
    have h := HM.out w (Upd.refl _ _)
    exact ⟨(h.1.upd HU2.out (fun x hx => hd x (by simp [hx]))).upd u (fun x hx => hr x (by simp [hx])), (h.2.upd HU2.out (fun x hx => hd x (by simp [hx]))).upd u (fun x hx => hr x (by simp [hx]))⟩
  clear HM
  go_loopw [24, 5, 6] (fun i _ _ wr => ∃ k : Nat, k ≤ 2 ∧ i = .int .i64 (k : Int) ∧ Hid (Nd wr rb lv (([(t.lt0, t), (q.lt0, q)].take k).map sK) none 0 ∧ Upd [rb] w2 wr)) (fun i _ _ _ => 2 - (intOf i).toNat)
  case atStart => exact ⟨0, by omega, rfl, HR2.out, Upd.refl _ _⟩
  case round =>
    obtain ⟨k, hk, rfl, HI⟩ := hrel
    obtain rfl | rfl | rfl : k = 0 ∨ k = 1 ∨ k = 2 := by omega
    · have HWr : Hid (Mem wr l t (some (fsl l q)) 0) := (HM2.out wr HI.out.2).1
      have ck : wr.cell? ⟨gs, 0, none⟩ = some (.pointer (some ⟨tb, 0, none⟩)) := (HS.out.upd HI.out.2 (by simpa using Ne.symm hrs)).cell 0
      have HN : Hid (Nd wr rb lv ([] ++ []) none 0) := HI.out.1
      have K : Calls Try.prog 57 #[.pointer (some ⟨rb, 0, none⟩), .int .i64 0, .agg #[.string ⟨#[]⟩, .int .i64 0, .pointer (some ⟨tb, 0, none⟩)]] wr _ := lay_any rb lv [] [] none 0 0 rfl (⟨⟨#[]⟩, 0, some tb⟩ : Sl) wr HN.out (by simp)
      go_wp2_with fail
      refine K.mono ?_
      clear K
      rintro e w4 ⟨rfl, H⟩
      have HU4 : Hid (Upd [rb] w2 w4) := HI.out.2.trans (Upd.of_by H.out.2) (by simp)
      have HM4 := (HM2.out w4 HU4.out).1
      have K := name_any rb lv [] (⟨⟨#[]⟩, 0, some tb⟩ : Sl) [] none 0 0 rfl tb rfl t.lt0 w4 H.out.1 (by have h := HM4.text HC.out.1; rw [Htb.out] at h; exact h)
      have HU5 : Hid (Upd [rb] w2 w4) := HU4.out
      clear H HI HM4 HU4 ck HN HWr
      go_wp2_with fail
      refine K.mono ?_
      clear K
      rintro e w5 ⟨rfl, H⟩
      have HE : Hid (Nd w5 rb lv (([(t.lt0, t), (q.lt0, q)].take 1).map sK) none 0 ∧ Upd [rb] w2 w5) := ⟨by have h := H.out.1; rw [show ({ (⟨⟨#[]⟩, 0, some tb⟩ : Sl) with t := t.lt0 } : Sl) = sK (t.lt0, t) by unfold sK; rw [Htb.out]] at h; exact h, HU5.out.trans (Upd.of_by H.out.2) (by simp)⟩
      clear H HU5
      go_wp2
      go_roundw
      case rel => exact ⟨1, by omega, by go_num, HE.out⟩
      case measure => simp [intOf]
    · have HWr : Hid (Mem wr l q none 0) := (HM2.out wr HI.out.2).2
      have ck : wr.cell? ⟨gs, 1, none⟩ = some (.pointer (some ⟨qb, 0, none⟩)) := (HS.out.upd HI.out.2 (by simpa using Ne.symm hrs)).cell 1
      have HN : Hid (Nd wr rb lv ([sK (t.lt0, t)] ++ []) none 0) := HI.out.1
      have K : Calls Try.prog 57 #[.pointer (some ⟨rb, 0, none⟩), .int .i64 1, .agg #[.string ⟨#[]⟩, .int .i64 0, .pointer (some ⟨qb, 0, none⟩)]] wr _ := lay_any rb lv [sK (t.lt0, t)] [] none 0 1 rfl (⟨⟨#[]⟩, 0, some qb⟩ : Sl) wr HN.out (by simp)
      go_wp2_with fail
      refine K.mono ?_
      clear K
      rintro e w4 ⟨rfl, H⟩
      have HU4 : Hid (Upd [rb] w2 w4) := HI.out.2.trans (Upd.of_by H.out.2) (by simp)
      have HM4 := (HM2.out w4 HU4.out).2
      have K := name_any rb lv [sK (t.lt0, t)] (⟨⟨#[]⟩, 0, some qb⟩ : Sl) [] none 0 1 rfl qb rfl q.lt0 w4 H.out.1 (by have h := HM4.text HC.out.2.1; rw [Hqb.out] at h; exact h)
      have HU5 : Hid (Upd [rb] w2 w4) := HU4.out
      clear H HI HM4 HU4 ck HN HWr
      go_wp2_with fail
      refine K.mono ?_
      clear K
      rintro e w5 ⟨rfl, H⟩
      have HE : Hid (Nd w5 rb lv (([(t.lt0, t), (q.lt0, q)].take 2).map sK) none 0 ∧ Upd [rb] w2 w5) := ⟨by have h := H.out.1; rw [show ({ (⟨⟨#[]⟩, 0, some qb⟩ : Sl) with t := q.lt0 } : Sl) = sK (q.lt0, q) by unfold sK; rw [Hqb.out]] at h; exact h, HU5.out.trans (Upd.of_by H.out.2) (by simp)⟩
      clear H HU5
      go_wp2
      go_roundw
      case rel => exact ⟨2, by omega, by go_num, HE.out⟩
      case measure => simp [intOf]
    · have HTr : Hid (Blk wr g 55 (tC (some tb) n (nd + 1))) := HT2.out.upd HI.out.2 (by simpa using hgr)
      have HNr : Hid (Nd wr rb lv ([(t.lt0, t), (q.lt0, q)].map sK) none 0) := HI.out.1
      have HUr : Hid (Upd [g] w wr) := HU2.out.trans HI.out.2 (by simp; omega)
      have HMr : Hid (Mem wr l t (some (fsl l q)) 0 ∧ Mem wr l q none 0) := HM2.out wr HI.out.2
      clear HI HM2 HT2 HR2 HU2 HS
      go_wp2_with (refine st_one rfl 53 (.tmp 41) (.tmp 39) rfl g 0 55 _ (.pointer (some ⟨rb, 0, none⟩)) rfl rfl rfl rfl (by show 0 < 3; decide) HTr.out s53 ?_)
      intro w3 B3 G3
      have HE : Hid (∃ rb, Blk w3 g 55 (tC (some rb) n (nd + 1)) ∧ Mem w3 (l + 1) (.nd rb [(t.lt0, t), (q.lt0, q)]) none 0 ∧ w.heap.size ≤ rb ∧ Upd [g] w w3) := by
        have hd : ∀ x ∈ fps l t ++ fps l q, x ∉ [g] := fun x hx e => HC.out.2.2 (by rw [← List.mem_singleton.1 e]; exact hx)
        refine ⟨rb, B3, ⟨by rw [HLV.out]; exact HNr.out.kept G3 (by simpa using (Ne.symm hgr)), HMr.out.1.upd (Upd.of_by G3) (fun x hx => hd x (by simp [hx])), HMr.out.2.upd (Upd.of_by G3) (fun x hx => hd x (by simp [hx])), trivial⟩, hrb, HUr.out.trans (Upd.of_by G3) (by simp)⟩
      clear B3 G3 HTr HNr HUr HMr
      go_wp2
      go_end0
      exact ⟨rfl, HE.out⟩
end Go.Proofs.Yteokjfpppmnebaa
