/-
  MerkleGoes' walk.
-/
import Derived.Test.YtehkaploinklmaaDoorEz
namespace Go.Proofs.YtehkaploinklmaaDoor
open Go Go.RowKit Go.Maps Sh
theorem owe_zero (w : World) (base : Nat) (hb : base ≤ w.heap.size) : OwE (nums .u8) 30 32 (w.alloc (.cells #[] 30)) base (.slice (some ⟨w.heap.size, 0, none⟩) 0 0) [] :=
  ⟨World.ownsRow_made w #[] 0 hb (by unfold maxLen; omega) rfl, by simp⟩
theorem hl_one {M : List (List Nat)} (h : Hl M) : ∀ y ∈ M, (nums .u8 y).length = 32 ∧ ∀ u ∈ nums .u8 y, u.oneCell' = true := fun y hy => ⟨by rw [nums_length]; exact (h y hy).1, nums_one _ _⟩
set_option maxHeartbeats 4000000 in
set_option maxRecDepth 8000 in
theorem goes_walk (L M : List (List Nat)) (hL : Hl L) (hM : Hl M) (a b : Option Addr) (ca cb : Nat) (hla : L.length ≤ 140737488355328) (hlb : M.length ≤ 140737488355328) (hna : a = none → ca = 0) (hnb : b = none → cb = 0) (w : World) (hSa : ES (nums .u8) 32 w a L) (hSb : ES (nums .u8) 32 w b M) (hT : Tb w) :
    Calls Tryd.prog 7 #[.slice a L.length ca, .slice b M.length cb] w fun e w' => e = .returned (.bool true) ∧ Below w.heap.size w w' := by
  have HL : Hid (Hl L) := hL
  have HM : Hid (Hl M) := hM
  have HA : Hid (ES (nums .u8) 32 w a L ∧ (a = none → ca = 0)) := ⟨hSa, hna⟩
  have HB : Hid (ES (nums .u8) 32 w b M ∧ (b = none → cb = 0)) := ⟨hSb, hnb⟩
  have HTb : Hid (Tb w) := hT
  clear hL hM hSa hSb hT hna hnb
  go_enter Tryd.func7, Tryd.ntmps7
  by_cases hmost : L.length + M.length ≤ 80
  case neg =>
    have h1 : (80 : Int) < (L.length : Int) + (M.length : Int) := by omega
    go_wp2
    go_ret
    exact ⟨rfl, Below.refl _ _⟩
  have h1 : ¬ (80 : Int) < (L.length : Int) + (M.length : Int) := by omega
  go_wp2_with fail
  refine (made_any a ca L HL.out (by omega) w HTb.out HA.out.1).mono ?_
  rintro e w1 ⟨bt, rfl, hTr, Z⟩
  have HT1 : Hid (Tr w1 bt w.heap.size L) := hTr
  clear hTr
  obtain ⟨w2, hw2, Z2, O2⟩ : ∃ w2, w1.alloc (.cells #[] 30) = w2 ∧ Below w1.heap.size w1 w2 ∧ OwE (nums .u8) 30 32 w2 w1.heap.size (.slice (some ⟨w1.heap.size, 0, none⟩) 0 0) [] := ⟨_, rfl, (Below.refl _ _).alloc (Nat.le_refl _) _, owe_zero w1 _ (Nat.le_refl _)⟩
  have ESa : ES (nums .u8) 32 w2 a L := HA.out.1.below (Z.trans (Z2.mono Z.size))
  have HO2 : Hid (OwE (nums .u8) 30 32 w2 w1.heap.size (.slice (some ⟨w1.heap.size, 0, none⟩) 0 0) []) := O2
  have HEa : Hid (ES (nums .u8) 32 w2 a L) := ESa
  have s2 := Z2.size
  go_wp2_with (at_builtin; go_must (refine app_wl rfl (.tmp 26) (.tmp 27) 22 30 rfl Tryd.underlying22 _ 32 iH (by decide) (by decide) (by decide) w1.heap.size (.slice (some ⟨w1.heap.size, 0, none⟩) 0 0) [] L rfl HO2.out a ca rfl HEa.out HA.out.2 (hl_one HL.out) (by simp; omega) s2 ?_))
  intro v3 w3 O3 G3
  have Z3 := below_own Z2 s2 O2 G3
  have HO3 : Hid (OwE (nums .u8) 30 32 w3 w1.heap.size v3 L) := O3
  have HEb : Hid (ES (nums .u8) 32 w3 b M) := HB.out.1.below (Z.trans (Z3.mono Z.size))
  have s3 := Z3.size
  clear G3 O3 O2 ESa hw2 Z2 HO2 HEa
  go_wp2_with (at_builtin; go_must (refine app_wl rfl (.tmp 28) (.tmp 29) 22 30 rfl Tryd.underlying22 _ 32 iH (by decide) (by decide) (by decide) w1.heap.size v3 L M rfl HO3.out b cb rfl HEb.out HB.out.2 (hl_one HM.out) (by omega) s3 ?_))
  intro v4 w4 O4 G4
  have Z4 := below_own Z3 s3 HO3.out G4
  obtain ⟨a4, c4, rfl, _, _, es4, _⟩ := O4.es
  have HE4 : Hid (ES (nums .u8) 32 w4 a4 (L ++ M)) := es4
  have HLM : Hid (Hl (L ++ M)) := HL.out.app HM.out
  have ZZ := Z.trans (Z4.mono Z.size)
  have HT4 : Hid (Tr w4 bt w.heap.size L) := HT1.out.grow Z4
  have hlm : (L ++ M).length ≤ 80 := by rw [List.length_append]; exact hmost
  have KM := made_any a4 c4 (L ++ M) HLM.out (by omega) w4 (HTb.out.grow ZZ) HE4.out
  obtain ⟨LM, hLM⟩ : ∃ LM, Hid (LM = L ++ M) := ⟨_, rfl⟩
  rw [← hLM.out] at KM hlm HLM ⊢
  clear G4 O4 es4 HO3 HEb HE4 Z3 s3 s2 HT1
  go_wp2_with fail
  refine KM.mono ?_
  rintro e w5 ⟨bu, rfl, hTr, Z5⟩
  have HU5 : Hid (Tr w5 bu w4.heap.size LM) := hTr
  have HT5 : Hid (Tr w5 bt w.heap.size L) := HT4.out.grow Z5
  have ZZ := ZZ.trans (Z5.mono ZZ.size)
  have HI : Hid (Below w5.heap.size w5 w5) := Below.refl _ _
  clear hTr Z5 Z4 KM HT4 Z
  go_wp2
  go_loopw [9] (fun iv wr => ∃ k : Nat, k ≤ L.length + 1 ∧ iv = .int .i64 (k : Int) ∧ Hid (Below w5.heap.size w5 wr)) (fun iv _ => L.length + 1 - (intOf iv).toNat)
  case atStart => exact ⟨0, Nat.zero_le _, rfl, HI⟩
  case round =>
    clear HI
    obtain ⟨k, hk, rfl, HI⟩ := hrel
    have Zr := HI.out
    by_cases hle : k ≤ L.length
    · have hle' : (k : Int) ≤ (L.length : Int) := by omega
      obtain ⟨r, hr⟩ : ∃ r, Hid (r = Mk.R nd em (L.take k)) := ⟨_, rfl⟩
      have HR : Hid (Hh r) := by show Hh r; rw [hr.out]; exact R_hh (HL.out.take k)
      have SR : Hid ((Tryd.prog.info? 30).map (·.size) = some (nums .u8 r).length ∧ (nums .u8 r).length = (nums .u8 (List.replicate 32 0)).length) := ⟨sH HR.out, by rw [nums_length, nums_length, HR.out.1, List.length_replicate]⟩
      have K1 := root_in bt w.heap.size L HL.out (by omega) k hle wr (HT5.out.grow Zr)
      rw [← hr.out] at K1
      have hle2 : k ≤ LM.length := by rw [hLM.out, List.length_append]; omega
      have eR : Hid (Mk.R nd em (LM.take k) = r) := by show _ = _; rw [hLM.out, List.take_append_of_le_length hle, ← hr.out]
      go_wp2_with fail
      refine K1.mono ?_
      rintro e y1 ⟨rfl, Y1⟩
      have Zr := Zr.trans (Y1.mono Zr.size)
      clear Y1 K1
      go_wp2_with (refine al_zero rfl 30 rfl _ z25 ?_)
      intro g1 y2 l1 B1 G1
      have hg1 := Nat.le_trans Zr.size l1
      have Zr := Zr.grown G1 Zr.size (by simp)
      clear G1
      go_wp2_with (refine st_all rfl 30 (.tmp 10) (.tmp 50) rfl g1 30 (nums .u8 (List.replicate 32 0)) (nums .u8 r) rfl rfl B1 SR.out.2 SR.out.1 (nums_one _ _) ?_)
      intro y3 B1 G1
      have Zr := grown_below Zr G1 Zr.size hg1
      clear G1
      have K2 := root_in bu w4.heap.size LM HLM.out (by omega) k hle2 y3 (HU5.out.grow Zr)
      rw [eR.out] at K2
      go_wp2_with fail
      refine K2.mono ?_
      rintro e y4 ⟨rfl, Y4⟩
      have B1 := B1.below Y4 B1.lt
      have Zr := Zr.trans (Y4.mono Zr.size)
      clear Y4 K2
      go_wp2_with (refine al_zero rfl 30 rfl _ z25 ?_)
      intro g2 y5 l2 B2 G2
      have n12 : g1 ≠ g2 := by have := B1.lt; omega
      have B1 := B1.kept G2 (by simp)
      have hg2 := Nat.le_trans Zr.size l2
      have Zr := Zr.grown G2 Zr.size (by simp)
      clear G2
      go_wp2_with (refine st_all rfl 30 (.tmp 12) (.tmp 56) rfl g2 30 (nums .u8 (List.replicate 32 0)) (nums .u8 r) rfl rfl B2 SR.out.2 SR.out.1 (nums_one _ _) ?_)
      intro y6 B2 G2
      have B1 := B1.kept G2 (fun e => n12 (Option.some.inj e))
      have Zr := grown_below Zr G2 Zr.size hg2
      have HI : Hid (Below w5.heap.size w5 y6) := Zr
      have eq := fun W => eq_hash HR.out HR.out W
      simp only [decide_true] at eq
      clear G2
      go_wp2_with (first | (refine ld_mid rfl 30 (.tmp 10) rfl g1 0 rfl (nums .u8 r) _ B1.all Tryd.underlying30 rfl SR.out.1 ?_) | (refine ld_mid rfl 30 (.tmp 12) rfl g2 0 rfl (nums .u8 r) _ B2.all Tryd.underlying30 rfl SR.out.1 ?_))
      go_roundw
      case rel => exact ⟨k + 1, by omega, by simp, HI⟩
      case measure => simp [intOf]; omega
    · have hle' : ¬ (k : Int) ≤ (L.length : Int) := by omega
      have ZE := ZZ.trans (Zr.mono ZZ.size)
      have KK := known_any wr (HTb.out.grow ZE)
      go_wp2_with fail
      refine KK.mono ?_
      rintro e y1 ⟨rfl, Y1⟩
      have ZE := ZE.trans (Y1.mono ZE.size)
      clear Y1 KK
      go_wp2
      go_ret
      exact ⟨rfl, ZE⟩
#print axioms goes_walk
end Go.Proofs.YtehkaploinklmaaDoor
