/-
  The leaf that a text belongs to: leaf, find.
-/
import Derived.Test.YteokjfpppmnebaaPe
namespace Go.Proofs.Yteokjfpppmnebaa
open Go.RowKit
set_option linter.unusedVariables false
set_option linter.unusedSimpArgs false
def lfn : Nat → B → ByteArray → B
  | 0, t, _ => t
  | _ + 1, .lf b es, _ => .lf b es
  | l + 1, .nd b ks, k => match ks[und (ks.map sK) k]? with
    | some p => lfn l p.2 k
    | none => .nd b ks
theorem lfn_at {l b : Nat} {A D : List KB} {p : KB} {k : ByteArray} (h : und ((A ++ p :: D).map sK) k = A.length) : lfn (l + 1) (.nd b (A ++ p :: D)) k = lfn l p.2 k := by
  simp only [lfn]
  rw [h]
  simp
/-- A tree that may be gone down. -/
structure Ok (l : Nat) (t : B) : Prop where
  fit : Fit l t
  ne : 0 < l → 0 < t.cnt
theorem Ok.cut {l b : Nat} {ks : List KB} (h : Ok (l + 1) (.nd b ks)) (k : ByteArray) : ∃ A p D, ks = A ++ p :: D ∧ und (ks.map sK) k = A.length ∧ Ok l p.2 ∧ 8 ≤ p.2.cnt ∧ p.1 = p.2.lt0 := by
  have hu : und (ks.map sK) k < ks.length := by
    have := und_lt (ss := ks.map sK) k (h.ne (by omega))
    simpa using this
  obtain ⟨A, p, D, rfl, hA⟩ := cut_kb hu
  have hf := h.fit p (by simp)
  exact ⟨A, p, D, rfl, hA.symm, ⟨hf.1, fun _ => by have := hf.2.1; omega⟩, hf.2.1, hf.2.2⟩
theorem lfn_mem {w : World} : ∀ {l : Nat} {t : B} {nx : Option Nat} {rd : Int} (k : ByteArray), Mem w l t nx rd → Ok l t → ∃ b es nx' rd', lfn l t k = .lf b es ∧ Nd w b 0 (es.map sE) nx' rd' ∧ b ∈ fps l t
  | 0, .lf b es, nx, rd, k, h, _ => ⟨b, es, nx, rd, rfl, h, by simp [fps, B.bk]⟩
  | l + 1, .nd b ks, nx, rd, k, h, ho => by
    obtain ⟨A, p, D, rfl, hA, hp, _⟩ := ho.cut k
    rw [lfn_at hA]
    obtain ⟨b', es, nx', rd', h1, h2, h3⟩ := lfn_mem k (chain_app.1 h.2).2.1 hp
    exact ⟨b', es, nx', rd', h1, h2, by simp [fps, h3]⟩
/-- A pointer's level. -/
def lvOf (v : Value) (w : World) : Nat := match v with
  | .pointer (some a) => match w.cell? ⟨a.block, 0, none⟩ with
    | some (.int _ z) => z.toNat
    | _ => 0
  | _ => 0
theorem lvOf_eq {w : World} {b : Nat} {z : Int} (h : w.cell? ⟨b, 0, none⟩ = some (.int .i64 z)) : lvOf (.pointer (some ⟨b, 0, none⟩)) w = z.toNat := by
  simp [lvOf, h]
set_option maxRecDepth 8000 in
set_option maxHeartbeats 1000000 in
theorem leaf_any (l : Nat) (t : B) (nx : Option Nat) (rd : Int) (key : ByteArray) (w : World) (h : Mem w l t nx rd) (ho : Ok l t) : Calls Try.prog 42 #[.pointer (some ⟨t.bk, 0, none⟩), .string key] w fun e w' => e = .returned (.pointer (some ⟨(lfn l t key).bk, 0, none⟩)) ∧ Hid (Below w.heap.size w w') := by
  have HM : Hid (Mem w l t nx rd ∧ Ok l t) := ⟨h, ho⟩
  obtain ⟨Z, HZ⟩ : ∃ Z, Hid ((lfn l t key).bk = Z) := ⟨_, rfl⟩
  rw [HZ.out]
  obtain ⟨b0, Hb0⟩ : ∃ b, Hid (t.bk = b) := ⟨_, rfl⟩
  rw [Hb0.out]
  clear h ho
  go_enter Try.func42, Try.ntmps42
  go_wp2
  go_loopw [0] (fun q wr => ∃ b, q = .pointer (some ⟨b, 0, none⟩) ∧ Hid (∃ l' t' nx' rd', t'.bk = b ∧ Mem wr l' t' nx' rd' ∧ Ok l' t' ∧ (lfn l' t' key).bk = Z ∧ Below w.heap.size w wr)) (fun q wr => lvOf q wr)
  case atStart => exact ⟨b0, rfl, l, t, nx, rd, Hb0.out, HM.out.1, HM.out.2, HZ.out, Below.refl _ _⟩
  case round =>
    obtain ⟨b, rfl, HI⟩ := hrel
    obtain ⟨l', t', nx', rd', rfl, h1, h2, h3, h4⟩ := HI.out
    clear HM HZ HI
    cases l' with
    | zero =>
      have hN := h1.nd
      have c0 : wr.cell? ⟨t'.bk, 0, none⟩ = some (.int .i64 0) := hN.level
      have hz : t'.bk = Z := h3
      have HB : Hid (Below w.heap.size w wr) := h4
      clear h1 h2 h3 h4 hN
      rw [hz] at c0 ⊢
      clear hz
      go_wp2
      go_ret
      exact ⟨rfl, HB.out⟩
    | succ l' =>
      cases t' with
      | lf b es => exact h1.elim
      | nd b ks =>
        obtain ⟨A, p, D, rfl, hA, hp, hp8, _⟩ := h2.cut key
        have hN : Nd wr b ((l' + 1 : Nat) : Int) ((A ++ p :: D).map sK) none rd' := h1.1
        obtain ⟨lv, HLV⟩ : ∃ lv : Int, Hid (((l' + 1 : Nat) : Int) = lv) := ⟨_, rfl⟩
        obtain ⟨i, HI⟩ : ∃ i, Hid (A.length = i) := ⟨_, rfl⟩
        obtain ⟨ss, HSS⟩ : ∃ ss, Hid ((A ++ p :: D).map sK = ss) := ⟨_, rfl⟩
        obtain ⟨kb, HKB⟩ : ∃ kb, Hid (p.2.bk = kb) := ⟨_, rfl⟩
        have HN : Hid (Nd wr b lv ss none rd') := by rw [← HLV.out, ← HSS.out]; exact hN
        have hlv : 0 < lv := by rw [← HLV.out]; omega
        have hil : i < ss.length := by rw [← HSS.out, ← HI.out]; simp
        have hl16 := HN.out.le
        have HSK : Hid (ss[i]? = some (sK p)) := by show _ = _; rw [← HSS.out, ← HI.out]; simp
        have HUN : Hid (und ss key = i) := by rw [← HSS.out, ← HI.out]; exact hA
        have HK : Hid (∀ W, Below wr.heap.size wr W → Mem W l' p.2 (nxt (fsl l') D nx') 0) := fun W g => (chain_app.1 (Mem.upd (Upd.of_below [] g) h1 (by simp)).2).2.1
        have HP : Hid (Ok l' p.2 ∧ (lfn l' p.2 key).bk = Z) := ⟨hp, by rw [lfn_at hA] at h3; exact h3⟩
        have HB : Hid (Below w.heap.size w wr) := h4
        have c0 : wr.cell? ⟨b, 0, none⟩ = some (.int .i64 lv) := HN.out.level
        show Code.wp _ _ _ _ _
        simp only [B.bk]
        clear h1 h2 h3 h4 hN hA hp hp8
        obtain ⟨C, hC⟩ : ∃ C : World → Prop, C = fun W => Below wr.heap.size wr W := ⟨_, rfl⟩
        have C0 : Hid (C { wr with drawn := wr.drawn + 1 }) := by rw [hC]; exact Below.drew (Below.refl _ _)
        have CO : Hid (∀ W, C W → Below wr.heap.size wr W) := fun W g => by rw [hC] at g; exact g
        have F1 : Hid (∀ W, C W → W.cell? ⟨b, 2 + i * 3 + 2, none⟩ = some (.pointer (some ⟨kb, 0, none⟩))) := fun W hW => by
          have h := (HN.out.below (CO.out W hW) HN.out.lt).slot i (sK p) (pad_at HSK.out) 2 (by decide)
          rw [show (slC (sK p))[2]? = some (pt (some p.2.bk)) from rfl, HKB.out] at h
          exact h
        have F5 : Hid (∀ W, C W → Calls Try.prog 51 #[.pointer (some ⟨b, 0, none⟩), .string key] W fun e w' => e = .returned (.int .i64 (i : Int)) ∧ C w') := fun W g => by
          have hb := CO.out W g
          refine (under_any b lv ss none rd' key W (HN.out.below hb HN.out.lt)).mono ?_
          rintro e w' ⟨rfl, H⟩
          rw [HUN.out, hC]
          exact ⟨rfl, hb.trans (H.out.mono hb.size)⟩
        clear hC
        go_wp2_with fail
        have hCp : ∀ p : Prop, (∀ W, C W → p) ↔ p := fun p => ⟨fun h => h _ C0.out, fun h _ _ => h⟩
        refine wp_region_quiet (C := C) (by kernel_rfl) (by kernel_rfl) C0.out ?_
        change wpQuiet _ _ _ _ (_ :: _ :: _ :: _ :: _ :: _ :: _ :: _ :: _ :: _ :: []) _
        repeat (first
          | go_big_quiet_skip
          | (go_big_quiet_want
             first
             | (refine q_ixa (.tmp 15) (.tmp 13) rfl b i rfl rfl (by omega) ?_
                simp only [Act.put, List.setIfInBounds_toArray, List.set_cons_zero, List.set_cons_succ]
                go_big_quiet_on)
             | (refine q_cell 53 (.inr (.inr rfl)) (.tmp 17) rfl b (2 + i * 3 + 2) rfl _ F1.out ?_
                simp only [Act.put, List.setIfInBounds_toArray, List.set_cons_zero, List.set_cons_succ]
                go_big_quiet_on)
             | (refine q_callv 51 _ _ rfl #[.pointer (some ⟨b, 0, none⟩), .string key] (by rw [List.map_toArray]; rfl) (enters Try.func51 (by kernel_rfl) rfl) _ F5.out ?_
                simp only [Act.put, List.setIfInBounds_toArray, List.set_cons_zero, List.set_cons_succ]
                go_big_quiet_on)
             | (go_big_quiet_op
                go_big_quiet_on)))
        refine wpQuiet_nil ?_
        intro w9 h9
        have HW9 : Hid (Below wr.heap.size wr w9) := CO.out _ h9
        have HM9 : Hid (Mem w9 l' p.2 (nxt (fsl l') D nx') 0) := HK.out _ HW9.out
        have HL9 : Hid (lvOf (.pointer (some ⟨kb, 0, none⟩)) w9 < lvOf (.pointer (some ⟨b, 0, none⟩)) wr) := by
          have h1 := HM9.out.nd.level
          rw [HKB.out] at h1
          show _ < _
          rw [lvOf_eq h1, lvOf_eq c0, ← HLV.out]
          omega
        clear h9 hCp C0 F1 F5 CO HK
        go_wp2
        go_roundw
        case rel => exact ⟨kb, rfl, l', p.2, _, 0, HKB.out, HM9.out, HP.out.1, HP.out.2, HB.out.trans (HW9.out.mono HB.out.size)⟩
        case measure => exact HL9.out
#print axioms leaf_any
end Go.Proofs.Yteokjfpppmnebaa
