/-
  Tree: remove, Get, Delete; what a tree is like.
-/
import Derived.Test.YteokjfpppmnebaaPm
namespace Go.Proofs.Yteokjfpppmnebaa
open Go.RowKit
set_option linter.unusedVariables false
set_option linter.unusedSimpArgs false
/-- A tree, maybe without a text. -/
def TreeO (w : World) (g : Nat) : Option (Nat × B) → Prop
  | none => Blk w g 55 (tC none 0 0)
  | some x => TreeM w g x.1 x.2
def entO : Option (Nat × B) → List E
  | none => []
  | some x => ents x.1 x.2
def fpO : Option (Nat × B) → List Nat
  | none => []
  | some x => fps x.1 x.2
structure DelR (w w' : World) (g l : Nat) (t : B) (key : ByteArray) (T : Option (Nat × B)) : Prop where
  tm : TreeO w' g T
  ent : entO T = (ents l t).eraseIdx (pos l t key)
  fp : ∀ y ∈ fpO T, y ∈ fps l t
  upd : Upd (g :: fps l t) w w'
theorem delR_keep {w w1 w2 : World} {g l : Nat} {t t' : B} {key : ByteArray} (ht : TreeM w g l t) (h : ModR w w1 g (some t.bk) (ents l t).length (nods l t) l t none t') (he : ents l t' = (ents l t).eraseIdx (pos l t key)) (hp : pos l t key < (ents l t).length) (u : w1.grownBy w2 (some g)) (hT : Blk w2 g 55 (tC (some t.bk) ((ents l t).length - 1) (nods l t'))) (hc : if l = 0 then 1 ≤ t'.cnt else 2 ≤ t'.cnt) : DelR w w2 g l t key (some (l, t')) := by
  have hgn : g ∉ fps l t' := fun q => ht.gn (h.fp g q)
  refine ⟨⟨?_, h.mem.upd (Upd.of_by u) (fun y hy e => hgn (by rw [← List.mem_singleton.1 e]; exact hy)), h.fit, hc, h.nodup, hgn⟩, he, h.fp, h.upd.trans (Upd.of_by u) (by simp)⟩
  rw [h.bk, he, List.length_eraseIdx_of_lt hp]
  exact hT
theorem delR_none {w w1 w2 : World} {g l : Nat} {t t' : B} {key : ByteArray} (h : ModR w w1 g (some t.bk) (ents l t).length (nods l t) l t none t') (he : ents l t' = (ents l t).eraseIdx (pos l t key)) (hp : pos l t key < (ents l t).length) (u : Upd [g] w1 w2) (nd2 : Nat) (hT : Blk w2 g 55 (tC none ((ents l t).length - 1) nd2)) (h0 : ents l t' = []) (hn : nd2 = 0) : DelR w w2 g l t key none := by
  have hl : (ents l t).length - 1 = 0 := by have := List.length_eraseIdx_of_lt hp; rw [← he, h0] at this; simpa using this.symm
  refine ⟨?_, by rw [← he, h0]; rfl, by simp [fpO], h.upd.trans u (by simp)⟩
  rw [hl, hn] at hT
  exact hT
theorem delR_down {w w1 w2 : World} {g l b : Nat} {t : B} {p : KB} {key : ByteArray} (ht : TreeM w g (l + 1) t) (h : ModR w w1 g (some t.bk) (ents (l + 1) t).length (nods (l + 1) t) (l + 1) t none (.nd b [p])) (he : ents (l + 1) (.nd b [p]) = (ents (l + 1) t).eraseIdx (pos (l + 1) t key)) (hp : pos (l + 1) t key < (ents (l + 1) t).length) (u : Upd [g] w1 w2) (hT : Blk w2 g 55 (tC (some p.2.bk) ((ents (l + 1) t).length - 1) (nods l p.2))) : DelR w w2 g (l + 1) t key (some (l, p.2)) := by
  have hgn : g ∉ fps (l + 1) (.nd b [p]) := fun q => ht.gn (h.fp g q)
  have ef : fps (l + 1) (.nd b [p]) = b :: fps l p.2 := by simp [fps]
  have ee : ents (l + 1) (.nd b [p]) = ents l p.2 := by simp [ents]
  have hF := h.fit p (by simp)
  have hd := h.nodup
  rw [ef] at hgn hd
  rw [ee] at he
  have hgp : g ∉ fps l p.2 := fun q => hgn (by simp [q])
  refine ⟨⟨?_, h.mem.2.1.upd u (fun y hy e => hgp (by rw [← List.mem_singleton.1 e]; exact hy)), hF.1, ?_, (List.nodup_cons.1 hd).2, hgp⟩, he, fun y hy => h.fp y (by rw [ef]; exact List.mem_cons_of_mem _ hy), h.upd.trans u (by simp)⟩
  · rw [he, List.length_eraseIdx_of_lt hp]
    exact hT
  · have := hF.2.1
    show if l = 0 then 1 ≤ p.2.cnt else 2 ≤ p.2.cnt
    split <;> omega
set_option maxRecDepth 8000 in
set_option maxHeartbeats 2000000 in
theorem remove_any (g l : Nat) (t : B) (key : ByteArray) (w : World) (ht : TreeM w g l t) (hn : (ents l t).length < 100000000) (hnd : nods l t ≤ 1000000000) (hl : l < 1000000000) (hh : hitT l t key) :
    Calls Try.prog 29 #[.pointer (some ⟨g, 0, none⟩), .string key] w fun e w' => e = .returned (.tuple #[]) ∧ Hid (∃ T, DelR w w' g l t key T) := by
  have hpos := hit_pos ht.ok hh
  have htop : 0 < l → 2 ≤ t.cnt := fun h => by have := ht.top; rw [if_neg (by omega)] at this; exact this
  have K := pull_any l t none g (some t.bk) (ents l t).length (nods l t) key w (Nat.le_refl _) hnd ht.tree ht.mem ht.fit htop ht.nodup ht.gn hh
  have HT0 : Hid (TreeM w g l t) := ht
  have HP : Hid (pos l t key < (ents l t).length) := hpos
  obtain ⟨tb, Htb⟩ : ∃ tb, Hid (t.bk = tb) := ⟨_, rfl⟩
  obtain ⟨n, Hn⟩ : ∃ n, Hid ((ents l t).length = n) := ⟨_, rfl⟩
  rw [Hn.out] at hn hpos
  have hn1 : 1 ≤ n := by omega
  have c0 : w.cell? ⟨g, 0, none⟩ = some (.pointer (some ⟨tb, 0, none⟩)) := by have h := ht.tree.cell 0; rw [Htb.out] at h; exact h
  rw [show (t.bk) = tb from Htb.out] at K
  have HTC : Hid (t.cnt = t.cnt ∧ (0 < l → 2 ≤ t.cnt) ∧ 1 ≤ t.cnt) := ⟨rfl, htop, by have := ht.top; split at this <;> omega⟩
  clear ht htop hh hpos
  go_enter Try.func29, Try.ntmps29
  go_wp2_with fail
  refine K.mono ?_
  clear K
  rintro e w1 ⟨rfl, H⟩
  obtain ⟨t', m, me⟩ := H.out
  obtain ⟨nd1, g1, g2, g3⟩ := m.tree
  obtain ⟨nd, Hnd⟩ : ∃ nd, Hid (nods l t' = nd) := ⟨_, rfl⟩
  have hnd1 : nd1 = nd := by rw [← Hnd.out]; omega
  subst hnd1
  have hb1 : nd1 ≤ 1000000000 := by omega
  rw [← Htb.out] at m
  rw [Hn.out] at g1
  have HM : Hid (ModR w w1 g (some t.bk) (ents l t).length (nods l t) l t none t' ∧ ents l t' = (ents l t).eraseIdx (pos l t key)) := ⟨m, me⟩
  have HT1 : Hid (Blk w1 g 55 (tC (some tb) n nd1)) := g1
  have cn : w1.cell? ⟨g, 1, none⟩ = some (.int .i64 (n : Int)) := HT1.out.cell 1
  have e1 : wrap64 ((n : Int) - 1) = (n : Int) - 1 := by simp only [wrap64]; omega
  have HE6 : Hid ((n : Int) - 1 = ((n - 1 : Nat) : Int)) := by show _ = _; omega
  clear H m me g1 g2 g3 c0
  go_wp2_with (refine st_one rfl 3 (.tmp 17) (.tmp 15) rfl g 1 55 _ (.int .i64 ((n : Int) - 1)) rfl (by first | rfl | exact congrArg _ e1) rfl rfl (by show 1 < 3; decide) HT1.out s3' ?_)
  intro w2 B2 G2
  have HT2 : Hid (Blk w2 g 55 (tC (some tb) (n - 1) nd1)) := by rw [HE6.out] at B2; exact B2
  have HG2 : Hid (w1.grownBy w2 (some g)) := G2
  have HGN : Hid (g ∉ fps l t') := fun q => HT0.out.gn (HM.out.1.fp g q)
  have HM2 : Hid (Mem w2 l t' none 0) := HM.out.1.mem.upd (Upd.of_by G2) (fun y hy e => HGN.out (by rw [← List.mem_singleton.1 e]; exact hy))
  obtain ⟨c, Hc⟩ : ∃ c, Hid (t'.cnt = c) := ⟨_, rfl⟩
  have c0 : w2.cell? ⟨g, 0, none⟩ = some (.pointer (some ⟨tb, 0, none⟩)) := HT2.out.cell 0
  have cc : w2.cell? ⟨tb, 1, none⟩ = some (.int .i64 (c : Int)) := by
    have h := HM2.out.nd.count
    rw [HM.out.1.bk, Htb.out] at h
    rw [show (t'.ss.length : Int) = (c : Int) by rw [← Hc.out]; rfl] at h
    exact h
  have cl : w2.cell? ⟨tb, 0, none⟩ = some (.int .i64 (l : Int)) := by
    have h := HM2.out.nd.level
    rw [HM.out.1.bk, Htb.out] at h
    exact h
  have hcb : 0 < l → 1 ≤ c := fun h => by have h1 := HTC.out.2.1 h; have h2 := HM.out.1.cnt; rw [Hc.out] at h2; omega
  clear B2 G2 HT1 cn e1 HE6
  by_cases hc0 : c = 0
  · have hl0 : l = 0 := by rcases Nat.eq_zero_or_pos l with h | h; exact h; have := hcb h; omega
    have he0 : ents l t' = [] := by
      subst hl0
      have hz := Hc.out
      have hmm := HM2.out
      cases t' with
      | lf b es => simp only [B.cnt, B.ss, List.length_map] at hz; rw [hc0] at hz; simpa [ents] using hz
      | nd b ks => exact hmm.elim
    have hnd1 : nd1 = 1 := by rw [← Hnd.out]; subst hl0; rfl
    have HZ : Hid (ents l t' = [] ∧ nd1 = 1) := ⟨he0, hnd1⟩
    subst hc0
    clear hcb he0 hnd1
    go_wp2_with (refine st_one rfl 53 (.tmp 29) (.const (.pointer none)) rfl g 0 55 _ (.pointer none) rfl rfl rfl rfl (by show 0 < 3; decide) HT2.out s53 ?_)
    intro w3 B3 G3
    have HT3 : Hid (Blk w3 g 55 (tC none (n - 1) nd1)) := B3
    have HU3 : Hid (Upd [g] w1 w3) := (Upd.of_by HG2.out).trans (Upd.of_by G3) (by simp)
    have cd : w3.cell? ⟨g, 2, none⟩ = some (.int .i64 (nd1 : Int)) := HT3.out.cell 2
    have e2 : wrap64 ((nd1 : Int) - 1) = (nd1 : Int) - 1 := by simp only [wrap64]; omega
    clear B3 G3 HT2 c0 cc cl
    go_wp2_with (refine st_one rfl 3 (.tmp 36) (.tmp 34) rfl g 2 55 _ (.int .i64 ((nd1 : Int) - 1)) rfl (by first | rfl | exact congrArg _ e2) rfl rfl (by show 2 < 3; decide) HT3.out s3' ?_)
    intro w4 B4 G4
    have HE : Hid (∃ T, DelR w w4 g l t key T) := ⟨none, delR_none HM.out.1 HM.out.2 HP.out (HU3.out.trans (Upd.of_by G4) (by simp)) 0 (by rw [Hn.out]; rw [HZ.out.2] at B4; exact B4) HZ.out.1 rfl⟩
    clear B4 G4 HT3 HU3 HM HM2 cd e2
    go_wp2
    go_end0
    exact ⟨rfl, HE.out⟩
  · have hc0' : ((c : Int) == 0) = false := beq_eq_false_iff_ne.2 (by omega)
    by_cases hc1 : c = 1 ∧ 0 < l
    · obtain ⟨hc1, hlp⟩ := hc1
      subst hc1
      have hlp' : (0 : Int) < (l : Int) := by omega
      obtain ⟨l', rfl⟩ : ∃ l', l = l' + 1 := ⟨l - 1, by omega⟩
      obtain ⟨b, p, htp⟩ : ∃ b p, t' = .nd b [p] := by
        have hz := Hc.out
        have hmm := HM2.out
        cases t' with
        | lf b es => exact hmm.elim
        | nd b ks =>
          simp only [B.cnt, B.ss, List.length_map] at hz
          match ks, hz with
          | [p], _ => exact ⟨b, p, rfl⟩
      subst htp
      obtain ⟨kb, HKB⟩ : ∃ kb, Hid (p.2.bk = kb) := ⟨_, rfl⟩
      have ck : w2.cell? ⟨tb, 4, none⟩ = some (.pointer (some ⟨kb, 0, none⟩)) := by
        have hbb : b = tb := by have h := HM.out.1.bk; rw [Htb.out] at h; exact h
        have h := HM2.out.1.slot 0 (sK p) (pad_at rfl) 2 (by decide)
        rw [show (slC (sK p))[2]? = some (pt (some p.2.bk)) from rfl, HKB.out, hbb] at h
        exact h
      have HN2 : Hid (nd1 = nods l' p.2 + 1) := by show _ = _; rw [← Hnd.out]; simp [nods]; omega
      clear hcb hc0
      go_wp2_with (refine st_one rfl 53 (.tmp 67) (.tmp 65) rfl g 0 55 _ (.pointer (some ⟨kb, 0, none⟩)) rfl rfl rfl rfl (by show 0 < 3; decide) HT2.out s53 ?_)
      intro w3 B3 G3
      have HT3 : Hid (Blk w3 g 55 (tC (some kb) (n - 1) nd1)) := B3
      have HU3 : Hid (Upd [g] w1 w3) := (Upd.of_by HG2.out).trans (Upd.of_by G3) (by simp)
      have cd : w3.cell? ⟨g, 2, none⟩ = some (.int .i64 (nd1 : Int)) := HT3.out.cell 2
      have e2 : wrap64 ((nd1 : Int) - 1) = (nd1 : Int) - 1 := by have := HN2.out; simp only [wrap64]; omega
      have HE6 : Hid ((nd1 : Int) - 1 = ((nods l' p.2 : Nat) : Int)) := by show _ = _; have := HN2.out; omega
      clear B3 G3 HT2 c0 cc cl ck
      go_wp2_with (refine st_one rfl 3 (.tmp 74) (.tmp 72) rfl g 2 55 _ (.int .i64 ((nd1 : Int) - 1)) rfl (by first | rfl | exact congrArg _ e2) rfl rfl (by show 2 < 3; decide) HT3.out s3' ?_)
      intro w4 B4 G4
      have HE : Hid (∃ T, DelR w w4 g (l' + 1) t key T) := ⟨some (l', p.2), delR_down HT0.out HM.out.1 HM.out.2 HP.out (HU3.out.trans (Upd.of_by G4) (by simp)) (by rw [Hn.out, HKB.out]; rw [HE6.out] at B4; exact B4)⟩
      clear B4 G4 HT3 HU3 HM HM2 cd e2 HE6
      go_wp2
      go_end0
      exact ⟨rfl, HE.out⟩
    · have HE : Hid (∃ T, DelR w w2 g l t key T) := ⟨some (l, t'), delR_keep HT0.out HM.out.1 HM.out.2 HP.out HG2.out (by rw [Hn.out, Htb.out, Hnd.out]; exact HT2.out) (by rw [Hc.out]; split <;> omega)⟩
      by_cases hc1' : c = 1
      · have hl0 : ¬ (0 : Int) < (l : Int) := by omega
        subst hc1'
        clear HM HM2 HT2 hcb hc0 hc1
        go_wp2
        go_end0
        exact ⟨rfl, HE.out⟩
      · have hc1b : ((c : Int) == 1) = false := beq_eq_false_iff_ne.2 (by omega)
        clear HM HM2 HT2 hcb hc0 hc1
        go_wp2
        go_end0
        exact ⟨rfl, HE.out⟩
#print axioms remove_any
end Go.Proofs.Yteokjfpppmnebaa
