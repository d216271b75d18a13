/-
  text's reader: text, blob. · text's reader: blob. · text's reader: run, number, time.
-/
import Derived.Test.YtpfiejmhnkcjbaaGreatDoorFG36x
import Derived.Test.YtpfiejmhnkcjbaaGreatDoorFG41x
import Derived.Test.YtpfiejmhnkcjbaaGreatDoorFG29x
namespace Go.Proofs.YtpfiejmhnkcjbaaGreatDoor
open Go.RowKit Math
set_option linter.unusedVariables false
set_option linter.unusedSimpArgs false
/-- A builder while the reader reads. -/
theorem Bs.read {g B r : Nat} {w w' : World} {v : Value} {l : List Nat} (h : Bs g B w v l) (k : w.grownBy w' (some r)) (hr : r < B) : Bs g B w' v l := by
  have hne : ∀ x, B ≤ x → some x ≠ some r := fun x hx e => by injection e with e; omega
  refine ⟨h.blk.imp (fun b => b.kept k (hne g h.le)) (fun b => b.kept k (hne g h.le)), World.ownsRow.kept h.own k (.inr fun c => ?_), h.ne, h.le⟩
  have := (World.ownsRow.lt h.own r c).1
  omega
/-- The reader and a builder. -/
structure Rb9 (r g B : Nat) (W wr : World) (s : ByteArray) (bad : Bool) (v : Value) (acc : List Nat) : Prop where
  kt : Kt r W wr s bad
  bs : Bs g B wr v acc
theorem Rb9.read {r g B : Nat} {W wr w' : World} {s s' : ByteArray} {bad bad' : Bool} {v : Value} {acc : List Nat} (h : Rb9 r g B W wr s bad v acc) (hr : r < B) (k : Kt r wr w' s' bad') : Rb9 r g B W w' s' bad' v acc :=
  ⟨h.kt.trans k, h.bs.read k.gr hr⟩
theorem Rb9.write {r g B : Nat} {W wr w' : World} {s : ByteArray} {bad : Bool} {v v' : Value} {acc acc' : List Nat} (h : Rb9 r g B W wr s bad v acc) (hr : r < B) (hW : W.heap.size ≤ B) (k : Bw g B wr w' v v' acc') : Rb9 r g B W w' s bad v' acc' := by
  have hg := h.bs.le
  have hv : ∀ x, x < B → v.ownBlock ≠ some x := fun x hx e => by have := (World.ownsRow.lt h.bs.own x e).1; omega
  have hrl := h.kt.blk.lt
  refine ⟨⟨k.blk h.kt.blk (by omega) (hv r hr), ⟨k.os.trans h.kt.gr.os, k.tape.trans h.kt.gr.tape, k.output.trans h.kt.gr.output, Nat.le_trans h.kt.gr.size k.size, fun x hx hne => ?_⟩⟩, k.bs⟩
  have hz := h.kt.gr.size
  rw [k.keep x (by omega) (by omega) (hv x (by omega))]
  exact h.kt.gr.block x hx hne
theorem Rb9.fin {r g B : Nat} {W wr w' : World} {s : ByteArray} {bad : Bool} {v : Value} {acc : List Nat} (h : Rb9 r g B W wr s bad v acc) (hr : r < B) (hW : W.heap.size ≤ B) (k : Below B wr w') : Kt r W w' s bad := by
  refine ⟨h.kt.blk.below k hr, ⟨k.os.trans h.kt.gr.os, k.tape.trans h.kt.gr.tape, k.output.trans h.kt.gr.output, Nat.le_trans h.kt.gr.size k.size, fun x hx hne => ?_⟩⟩
  rw [k.block x (by omega)]
  exact h.kt.gr.block x hx hne
def sln (r : Nat) (w : World) : Nat := match w.cell? ⟨r, 0, none⟩, w.cell? ⟨r, 1, none⟩ with
  | some (.string s), some (.bool b) => if b then 0 else s.size + 1
  | _, _ => 0
theorem sln_of {r : Nat} {w : World} {s : ByteArray} {b : Bool} (h : Blk w r 106 [.string s, .bool b]) : sln r w = if b then 0 else s.size + 1 := by
  unfold sln
  rw [h.cell 0, h.cell 1]
  rfl
set_option maxRecDepth 8000 in
set_option maxHeartbeats 4000000 in
theorem text9 (r : Nat) (s : ByteArray) (bad : Bool) (hs : s.size ≤ 600000) (W : World) (hb : Blk W r 106 [.string s, .bool bad]) :
    Calls Tryz.prog 106 #[.pointer (some ⟨r, 0, none⟩)] W fun e w' => ∃ (s' : ByteArray) (bad' : Bool) (x : ByteArray), e = .returned (.string x) ∧ Hid (Kt r W w' s' bad' ∧ Rt pQ (fun _ m => ∀ t, m ≠ 39 :: t) (bts s) bad (bts s') bad' x ∧ (bad' = false → x.size + 1 + s'.size ≤ s.size) ∧ x.size ≤ 600000 ∧ s'.size ≤ s.size) := by
  have K := must9 r s ⟨#[39]⟩ bad W hb
  have hrW := hb.lt
  clear hb
  go_enter Tryz.func106, Tryz.ntmps106
  go_wp2_with fail
  refine K.mono ?_
  rintro e w1 ⟨s1, b1, rfl, H1⟩
  clear K
  go_wp2_with (refine al_zero rfl 86 rfl zbl z68 ?_)
  intro g w2 hg bl2 gr2
  have HB2 : Hid (Below w1.heap.size w1 w2) := (Below.refl _ _).grown gr2 (Nat.le_refl _) (fun k e => by cases e)
  have hW1 : W.heap.size ≤ w1.heap.size := H1.out.1.gr.size
  have HI0 : Hid (Rb9 r g w1.heap.size W w2 s1 b1 (.slice none 0 0) [] ∧ Tx (bts s) bad (bts s1) b1 []) := by
    refine ⟨⟨H1.out.1.then HB2.out, bs_new bl2 hg⟩, Tx.start H1.out.2.1 fun h => ?_⟩
    have := congrArg List.length (H1.out.2.2.1 h)
    rw [List.length_append, bts_len, bts_len] at this
    have h1 : (⟨#[39]⟩ : ByteArray).size = 1 := rfl
    rw [bts_len] at this
    rw [bts_len, bts_len]
    omega
  have hs1 : s1.size ≤ s.size := H1.out.2.2.2
  clear H1 bl2 gr2 HB2
  go_wp2
  go_loopw [4] (fun _ wr => ∃ (sk : ByteArray) (bk : Bool) (v : Value) (acc : List Nat), sk.size ≤ s.size ∧ acc.length ≤ 600000 ∧ Hid (Rb9 r g w1.heap.size W wr sk bk v acc ∧ Tx (bts s) bad (bts sk) bk acc)) (fun _ wr => sln r wr)
  case atStart => exact ⟨s1, b1, _, [], hs1, by simp, HI0.out⟩
  case round =>
    clear HI0
    obtain ⟨sk, bk, v, acc, hsk, hac, HJ⟩ := hrel
    have HR : Hid (Rb9 r g w1.heap.size W wr sk bk v acc) := HJ.out.1
    have HT : Hid (Tx (bts s) bad (bts sk) bk acc) := HJ.out.2
    have hrB : r < w1.heap.size := by omega
    have c1 : wr.cell? ⟨r, 1, none⟩ = some (.bool bk) := HR.out.kt.blk.cell 1
    have HM : Hid (sln r wr = if bk then 0 else sk.size + 1) := sln_of HR.out.kt.blk
    clear HJ
    cases bk with
    | true =>
      have HF : Hid (Kt r W wr sk true ∧ Rt pQ (fun _ m => ∀ t, m ≠ 39 :: t) (bts s) bad (bts sk) true em) := ⟨HR.out.kt, HT.out.isBad em⟩
      clear HR HT HM
      go_wp2
      go_ret
      exact ⟨sk, true, em, rfl, HF.out.1, HF.out.2, fun h => (by cases h), by decide, hsk⟩
    | false =>
      have K := next9 r sk false (by omega) wr HR.out.kt.blk
      go_wp2_with fail
      refine K.mono ?_
      rintro e w3 ⟨s3, b3, c, rfl, H3⟩
      clear c1
      have HR3 : Hid (Rb9 r g w1.heap.size W w3 s3 b3 v acc) := HR.out.read hrB H3.out.1
      have hac2 : acc.length + 1 ≤ 600000 := by
        have := HT.out.pr rfl
        rw [bts_len, bts_len] at this
        omega
      have hc256 : c < 256 := H3.out.2.1
      clear K
      -- what goes on: a byte more
      have HG : Hid (∀ (s4 : ByteArray) (b4 : Bool) (x : Nat) (w4 w5 : World) (v5 : Value), Kt r w3 w4 s4 b4 → Bw g w1.heap.size w4 w5 v v5 (acc ++ [x]) → Rb9 r g w1.heap.size W w5 s4 b4 v5 (acc ++ [x])) := fun s4 b4 x w4 w5 v5 k1 k2 => (HR3.out.read hrB k1).write hrB hW1 k2
      by_cases h39 : c = 39
      · have hc39 : ((c : Int) == 39) = true := by rw [h39]; rfl
        have H39 : Hid (bts sk = 39 :: bts s3 ∧ b3 = false ∧ sk.size = s3.size + 1) := by
          rcases H3.out.2.2 with ⟨_, _, _, z⟩ | ⟨z1, z2, z3⟩
          · omega
          · exact ⟨by rw [z1, h39], z2, z3⟩
        obtain rfl : b3 = false := H39.out.2.1
        have hz3 : sk.size = s3.size + 1 := H39.out.2.2
        have K4 := skip9 r s3 ⟨#[39]⟩ false w3 HR3.out.kt.blk
        have HC9 : Hid (c = 39) := h39
        clear H3 h39
        go_wp2_with fail
        refine K4.mono ?_
        rintro e w4 ⟨s4, is, rfl, H4⟩
        cases is with
        | false =>
          have H4n : Hid (s4 = s3 ∧ ∀ t, bts s3 ≠ [39] ++ t) := by
            rcases H4.out.2 with ⟨h, _⟩ | ⟨_, h⟩
            · cases h
            · exact h
          have HR4 : Hid (Rb9 r g w1.heap.size W w4 s4 false v acc) := HR3.out.read hrB H4.out.1
          have K5 := bstr9 HR4.out.bs HT.out.oc
          have HQ : Hid (Rt pQ (fun _ m => ∀ t, m ≠ 39 :: t) (bts s) bad (bts s4) false (ofB acc) ∧ (ofB acc).size + 1 + s4.size ≤ s.size ∧ (ofB acc).size ≤ 600000 ∧ s4.size ≤ s.size) := by
            obtain ⟨e, hn⟩ := H4n.out
            have hp := HT.out.pr rfl
            rw [bts_len, bts_len] at hp
            refine ⟨?_, ?_, ?_, ?_⟩
            · rw [e]; exact HT.out.done H39.out.1 hn
            · rw [ofB_size, e]; omega
            · rw [ofB_size]; omega
            · rw [e]; omega
          clear K4 H4 H4n HR3 HR HT HM H39 HG
          generalize ofB acc = X at *
          go_wp2_with fail
          refine K5.mono ?_
          rintro e w5 ⟨rfl, b5⟩
          have HF : Hid (Kt r W w5 s4 false) := HR4.out.fin hrB hW1 b5
          clear K5 b5 HR4
          go_wp2
          go_ret
          exact ⟨s4, false, X, rfl, HF.out, HQ.out.1, fun _ => HQ.out.2.1, HQ.out.2.2.1, HQ.out.2.2.2⟩
        | true =>
          have H4y : Hid (bts s3 = 39 :: bts s4) := by
            rcases H4.out.2 with ⟨_, h⟩ | ⟨h, _⟩
            · exact h
            · cases h
          have hz4 : s3.size = s4.size + 1 := by
            have := congrArg List.length H4y.out
            rw [List.length_cons, bts_len, bts_len] at this
            exact this
          have K5 := wrb9 c (HR3.out.bs.read H4.out.1.gr hrB) (by omega)
          have HKt4 : Hid (Kt r w3 w4 s4 false) := H4.out.1
          have HT5 : Hid (Tx (bts s) bad (bts s4) false (acc ++ [c])) := by rw [HC9.out]; exact HT.out.quote (by rw [H39.out.1, H4y.out])
          clear K4 H4 HR H39 H4y HT HC9
          go_wp2_with fail
          refine K5.mono ?_
          rintro e w5 ⟨v5, rfl, H5⟩
          have HR5 : Hid (Rb9 r g w1.heap.size W w5 s4 false v5 (acc ++ [c])) := HG.out s4 false c w4 w5 v5 HKt4.out H5.out
          have HM5 : Hid (sln r w5 < sln r wr) := by
            show _ < _
            rw [sln_of HR5.out.kt.blk, HM.out]
            simp
            omega
          clear K5 H5 HR3 HKt4 HG HM
          go_wp2
          go_roundw
          case rel => exact ⟨s4, false, v5, _, by omega, by simp; omega, HR5.out, HT5.out⟩
          case measure => exact HM5.out
      have hc39 : ((c : Int) == 39) = false := by simp; omega
      by_cases h92 : c = 92
      · have hc92 : ((c : Int) == 92) = true := by rw [h92]; rfl
        have H92 : Hid (bts sk = 92 :: bts s3 ∧ b3 = false ∧ sk.size = s3.size + 1) := by
          rcases H3.out.2.2 with ⟨_, _, _, z⟩ | ⟨z1, z2, z3⟩
          · omega
          · exact ⟨by rw [z1, h92], z2, z3⟩
        obtain rfl : b3 = false := H92.out.2.1
        have hz3 : sk.size = s3.size + 1 := H92.out.2.2
        have K4 := pair9 r s3 false (by omega) w3 HR3.out.kt.blk
        clear H3 h92
        go_wp2_with fail
        refine K4.mono ?_
        rintro e w4 ⟨s4, b4, x, rfl, H4⟩
        have hz4 : s4.size ≤ s3.size := H4.out.1.le
        have K5 := wrb9 x (HR3.out.bs.read H4.out.1.kt.gr hrB) (by omega)
        have HKt4 : Hid (Kt r w3 w4 s4 b4) := H4.out.1.kt
        have HT5 : Hid (Tx (bts s) bad (bts s4) b4 (acc ++ [x])) := HT.out.esc H92.out.1 H4.out.2.1 H4.out.2.2 (fun h => by
          have := H4.out.1.pr h
          rw [bts_len, bts_len]
          omega)
        clear K4 H4 HR H92 HT
        go_wp2_with fail
        refine K5.mono ?_
        rintro e w5 ⟨v5, rfl, H5⟩
        have HR5 : Hid (Rb9 r g w1.heap.size W w5 s4 b4 v5 (acc ++ [x])) := HG.out s4 b4 x w4 w5 v5 HKt4.out H5.out
        have HM5 : Hid (sln r w5 < sln r wr) := by
          show _ < _
          rw [sln_of HR5.out.kt.blk, HM.out]
          cases b4 <;> simp <;> omega
        clear K5 H5 HR3 HKt4 HG HM
        go_wp2
        go_roundw
        case rel => exact ⟨s4, b4, v5, _, by omega, by simp; omega, HR5.out, HT5.out⟩
        case measure => exact HM5.out
      have hc92 : ((c : Int) == 92) = false := by simp; omega
      have K5 := wrb9 c HR3.out.bs (by omega)
      have HT5 : Hid ((b3 = false → Tx (bts s) bad (bts s3) false (acc ++ [c])) ∧ (b3 = true → Tx (bts s) bad (bts s3) true (acc ++ [c])) ∧ (sln r w3 < sk.size + 1) ∧ s3.size ≤ sk.size) := by
        rcases H3.out.2.2 with ⟨z1, z2, z3, z4⟩ | ⟨z1, z2, z3⟩
        · subst z3
          refine ⟨fun h => (by cases h), fun _ => ?_, ?_, by rw [z2]; omega⟩
          · have hn : bts sk = [] := List.eq_nil_of_length_eq_zero (by rw [bts_len]; exact z1)
            have h1 := HT.out
            rw [hn] at h1
            have h2 := h1.none em
            refine ⟨by rw [z2, hn]; exact h2.suf, fun _ => rfl, fun hb y m hm el => ?_, fun h => (by cases h), h1.oc.app (fun q hq => by simp at hq; omega)⟩
            have := (h2.co hb y m hm el).1
            cases this
          · rw [sln_of H3.out.1.blk]; simp
        · subst z2
          refine ⟨fun _ => HT.out.plain z1 (by omega) (by omega) hc256, fun h => (by cases h), ?_, by omega⟩
          rw [sln_of H3.out.1.blk]; simp; omega
      have HKt3 : Hid (Kt r w3 w3 s3 b3) := ⟨H3.out.1.blk, World.grownBy.refl _ _⟩
      have HM3 : Hid (sln r w3 = if b3 then 0 else s3.size + 1) := sln_of H3.out.1.blk
      clear H3 HR HT
      go_wp2_with fail
      refine K5.mono ?_
      rintro e w5 ⟨v5, rfl, H5⟩
      have HR5 : Hid (Rb9 r g w1.heap.size W w5 s3 b3 v5 (acc ++ [c])) := HG.out s3 b3 c w3 w5 v5 HKt3.out H5.out
      have HM5 : Hid (sln r w5 < sln r wr) := by
        show _ < _
        rw [sln_of HR5.out.kt.blk, HM.out, ← HM3.out]
        exact HT5.out.2.2.1
      have HT6 : Hid (Tx (bts s) bad (bts s3) b3 (acc ++ [c])) := by
        cases b3 with
        | true => exact HT5.out.2.1 rfl
        | false => exact HT5.out.1 rfl
      have hz3 : s3.size ≤ sk.size := HT5.out.2.2.2
      clear K5 H5 HR3 HKt3 HG HM HM3 HT5
      go_wp2
      go_roundw
      case rel => exact ⟨s3, b3, v5, _, by omega, by simp; omega, HR5.out, HT6.out⟩
      case measure => exact HM5.out
end Go.Proofs.YtpfiejmhnkcjbaaGreatDoor
namespace Go.Proofs.YtpfiejmhnkcjbaaGreatDoor
open Go.RowKit Math
set_option linter.unusedVariables false
set_option linter.unusedSimpArgs false
theorem one9 (s : ByteArray) (h : 0 < s.size) : s.extract 0 1 = ⟨#[s[0]'h]⟩ := by
  apply ByteArray.ext
  apply Array.toList_inj.1
  have h2 : 0 < s.data.toList.length := by rw [Array.length_toList]; exact h
  rw [ByteArray.data_extract, Array.toList_extract, List.extract_eq_take_drop, List.drop_zero, Nat.sub_zero]
  cases hl : s.data.toList with
  | nil => rw [hl] at h2; simp at h2
  | cons x t =>
    have h0 : s[0]'h = x := by
      have : s.data.toList[0]'h2 = x := by simp [hl]
      rw [← this]
      rfl
    rw [h0]
    simp
theorem con9 (c : UInt8) (W : World) : Calls Tryz.prog 135 #[.string ⟨#[48, 49, 50, 51, 52, 53, 54, 55, 56, 57, 97, 98, 99, 100, 101, 102]⟩, .string ⟨#[c]⟩] W fun e w' => e = .returned (.bool (isHx c.toNat)) ∧ w' = W := by
  have K : Calls Tryz.prog 135 _ _ _ := Any.strings_Contains_one Tryz.lays144 ⟨#[48, 49, 50, 51, 52, 53, 54, 55, 56, 57, 97, 98, 99, 100, 101, 102]⟩ c W
  refine K.mono ?_
  rintro e w' ⟨rfl, rfl⟩
  refine ⟨?_, rfl⟩
  have h1 : ∀ n : Fin 256, decide (0 ≤ Lib.indexByte (⟨#[48, 49, 50, 51, 52, 53, 54, 55, 56, 57, 97, 98, 99, 100, 101, 102]⟩ : ByteArray).data.toList (UInt8.ofNat n.val)) = isHx (UInt8.ofNat n.val).toNat := by decide +kernel
  have := h1 ⟨c.toNat, c.toNat_lt⟩
  rw [UInt8.ofNat_toNat] at this
  rw [← this]
set_option maxRecDepth 8000 in
set_option maxHeartbeats 4000000 in
theorem blob9 (r : Nat) (s : ByteArray) (bad : Bool) (hs : s.size ≤ 600000) (W : World) (hb : Blk W r 106 [.string s, .bool bad]) :
    Calls Tryz.prog 107 #[.pointer (some ⟨r, 0, none⟩)] W fun e w' => ∃ (s' : ByteArray) (bad' : Bool) (x : ByteArray), e = .returned (.string x) ∧ Hid (Kt r W w' s' bad' ∧ Rt pB (fun _ m => Stp m) (bts s) bad (bts s') bad' x ∧ (bad' = false → x.size + 1 + s'.size ≤ s.size) ∧ x.size ≤ 600000 ∧ s'.size ≤ s.size) := by
  have K := must9 r s ⟨#[35]⟩ bad W hb
  have hrW := hb.lt
  clear hb
  go_enter Tryz.func107, Tryz.ntmps107
  go_wp2_with fail
  refine K.mono ?_
  rintro e w1 ⟨s1, b1, rfl, H1⟩
  clear K
  go_wp2_with (refine al_zero rfl 86 rfl zbl z68 ?_)
  intro g w2 hg bl2 gr2
  have HB2 : Hid (Below w1.heap.size w1 w2) := (Below.refl _ _).grown gr2 (Nat.le_refl _) (fun k e => by cases e)
  have hW1 : W.heap.size ≤ w1.heap.size := H1.out.1.gr.size
  have HI0 : Hid (Rb9 r g w1.heap.size W w2 s1 b1 (.slice none 0 0) [] ∧ Bx (bts s) bad (bts s1) b1 []) := by
    refine ⟨⟨H1.out.1.then HB2.out, bs_new bl2 hg⟩, Bx.start H1.out.2.1 fun h => ?_⟩
    have := congrArg List.length (H1.out.2.2.1 h)
    rw [List.length_append, bts_len, bts_len] at this
    have h1 : (⟨#[35]⟩ : ByteArray).size = 1 := rfl
    rw [bts_len] at this
    rw [bts_len, bts_len]
    omega
  have hs1 : s1.size ≤ s.size := H1.out.2.2.2
  clear H1 bl2 gr2 HB2
  go_wp2
  go_loopw [] (fun wr => ∃ (sk : ByteArray) (bk : Bool) (v : Value) (acc : List Nat), sk.size ≤ s.size ∧ acc.length + sk.size ≤ s.size ∧ Hid (Rb9 r g w1.heap.size W wr sk bk v acc ∧ Bx (bts s) bad (bts sk) bk acc)) (fun wr => D6.strSize ((wr.cell? ⟨r, 0, none⟩).getD undef))
  case atStart => exact ⟨s1, b1, _, [], hs1, by simp; omega, HI0.out⟩
  case round =>
    clear HI0
    obtain ⟨sk, bk, v, acc, hsk, hac, HJ⟩ := hrel
    have HR : Hid (Rb9 r g w1.heap.size W wr sk bk v acc) := HJ.out.1
    have HT : Hid (Bx (bts s) bad (bts sk) bk acc) := HJ.out.2
    have hrB : r < w1.heap.size := by omega
    have c0 : wr.cell? ⟨r, 0, none⟩ = some (.string sk) := HR.out.kt.blk.cell 0
    have HM : Hid (D6.strSize ((wr.cell? ⟨r, 0, none⟩).getD undef) = sk.size) := by show _ = _; rw [c0]; rfl
    clear HJ
    have HE : Hid ((∀ c t, bts sk = c :: t → isHx c = false) → Rt pB (fun _ m => Stp m) (bts s) bad (bts sk) bk (ofB acc) ∧ (bk = false → (ofB acc).size + 1 + sk.size ≤ s.size) ∧ (ofB acc).size ≤ 600000) := fun h => by
      refine ⟨HT.out.done h, fun hb => ?_, by rw [ofB_size]; omega⟩
      have hp := HT.out.pr hb
      rw [bts_len, bts_len] at hp
      rw [ofB_size]
      omega
    have K5 := bstr9 HR.out.bs HT.out.oc
    by_cases h0 : sk.size = 0
    · have he : sk.toList.isEmpty = true := (empty9 sk).2 h0
      have HQ := Lib.hid (HE.out (fun c t e => by
        have := congrArg List.length e
        rw [bts_len, h0] at this
        simp at this))
      clear HE HT h0
      generalize ofB acc = X at *
      go_wp2_with fail
      refine K5.mono ?_
      rintro e w5 ⟨rfl, b5⟩
      have HF : Hid (Kt r W w5 sk bk) := HR.out.fin hrB hW1 b5
      clear K5 b5 HR HM
      go_wp2
      go_ret
      exact ⟨sk, bk, X, rfl, HF.out, HQ.out.1, HQ.out.2.1, HQ.out.2.2, hsk⟩
    have he : sk.toList.isEmpty = false := by
      cases hh : sk.toList.isEmpty with
      | true => exact absurd ((empty9 sk).1 hh) h0
      | false => rfl
    have hp : 0 < sk.size := by omega
    have hi1 : (1 : Int) ≤ (sk.size : Int) := by omega
    have hone := one9 sk hp
    have HC : Hid (bts sk = (sk[0]'hp).toNat :: bts (sk.extract 1 sk.size)) := bcons9 sk hp
    have K2 := con9 (sk[0]'hp) wr
    rw [← hone] at K2
    obtain ⟨ih, hih⟩ : ∃ ih, isHx (sk[0]'hp).toNat = ih := ⟨_, rfl⟩
    have HIh : Hid (isHx (sk[0]'hp).toNat = ih) := hih
    rw [hih] at K2
    clear hone hih
    go_wp2_with fail
    refine K2.mono ?_
    rintro e w9 ⟨rfl, rfl⟩
    clear K2
    cases ih with
    | false =>
      have HQ := Lib.hid (HE.out (fun c t e => by
        rw [HC.out] at e
        injection e with e _
        rw [← e]
        exact HIh.out))
      clear HE HT h0 HC HIh
      generalize ofB acc = X at *
      go_wp2_with fail
      refine K5.mono ?_
      rintro e w5 ⟨rfl, b5⟩
      have HF : Hid (Kt r W w5 sk bk) := HR.out.fin hrB hW1 b5
      clear K5 b5 HR HM
      go_wp2
      go_ret
      exact ⟨sk, bk, X, rfl, HF.out, HQ.out.1, HQ.out.2.1, HQ.out.2.2, hsk⟩
    | true =>
      have K4 := pair9 r sk bk (by omega) w9 HR.out.kt.blk
      clear K5 HE
      go_wp2_with fail
      refine K4.mono ?_
      rintro e w4 ⟨s4, b4, x, rfl, H4⟩
      have hz4 : s4.size < sk.size := H4.out.1.lt hp
      have K6 := wrb9 x (HR.out.bs.read H4.out.1.kt.gr hrB) (by omega)
      have HR4 : Hid (Rb9 r g w1.heap.size W w4 s4 b4 v acc) := HR.out.read hrB H4.out.1.kt
      have HT5 : Hid (Bx (bts s) bad (bts s4) b4 (acc ++ [x])) := HT.out.step HC.out HIh.out H4.out.2.1 H4.out.2.2 (fun h => by
        have := H4.out.1.pr h
        rw [bts_len, bts_len]
        omega)
      clear K4 H4 HR HT HC HIh
      go_wp2_with fail
      refine K6.mono ?_
      rintro e w5 ⟨v5, rfl, H5⟩
      have HR5 : Hid (Rb9 r g w1.heap.size W w5 s4 b4 v5 (acc ++ [x])) := HR4.out.write hrB hW1 H5.out
      have HM5 : Hid (D6.strSize ((w5.cell? ⟨r, 0, none⟩).getD undef) < D6.strSize ((w9.cell? ⟨r, 0, none⟩).getD undef)) := by
        show _ < _
        rw [HM.out, HR5.out.kt.blk.cell 0]
        exact hz4
      clear K6 H5 HR4 HM
      go_wp2
      go_roundw
      case rel => exact ⟨s4, b4, v5, _, by omega, by simp; omega, HR5.out, HT5.out⟩
      case measure => exact HM5.out
end Go.Proofs.YtpfiejmhnkcjbaaGreatDoor
namespace Go.Proofs.YtpfiejmhnkcjbaaGreatDoor
open Go.RowKit Math
set_option linter.unusedVariables false
set_option linter.unusedSimpArgs false
theorem nsT_is (c : UInt8) : ([45, 46, 48, 49, 50, 51, 52, 53, 54, 55, 56, 57] : List UInt8).contains c = nsg c.toNat := by
  have h1 : ∀ n : Fin 256, ([45, 46, 48, 49, 50, 51, 52, 53, 54, 55, 56, 57] : List UInt8).contains (UInt8.ofNat n.val) = nsg (UInt8.ofNat n.val).toNat := by decide +kernel
  have := h1 ⟨c.toNat, c.toNat_lt⟩
  rw [UInt8.ofNat_toNat] at this
  exact this
theorem dropWhile_map9 (l : List UInt8) : (l.dropWhile (fun c => ([45, 46, 48, 49, 50, 51, 52, 53, 54, 55, 56, 57] : List UInt8).contains c)).map UInt8.toNat = (l.map UInt8.toNat).dropWhile nsg := by
  induction l with
  | nil => rfl
  | cons c l ih =>
    rw [List.dropWhile_cons, List.map_cons, List.dropWhile_cons, nsT_is]
    cases nsg c.toNat with
    | true => exact ih
    | false => rfl
/-- What run takes and leaves. -/
theorem run_split (l : List Nat) : ∃ a b, l = a ++ b ∧ b = l.dropWhile nsg ∧ (∀ x ∈ a, nsg x = true) ∧ (∀ c t, b = c :: t → nsg c = false) := by
  refine ⟨l.takeWhile nsg, l.dropWhile nsg, List.takeWhile_append_dropWhile.symm, rfl, fun x hx => ?_, fun c t e => ?_⟩
  · exact List.all_eq_true.1 List.all_takeWhile x hx
  · have := List.head?_dropWhile_not nsg l
    rw [e] at this
    simpa using this
theorem run_uni {a b c m : List Nat} (h : a ++ b = c ++ m) (ha : ∀ x ∈ a, nsg x = true) (hb : ∀ x t, b = x :: t → nsg x = false) (hc : ∀ x ∈ c, nsg x = true) (hm : Stp m) : a = c ∧ b = m := by
  have hmm : ∀ x t, m = x :: t → nsg x = false := fun x t e => by
    rcases hm with rfl | ⟨y, t', rfl, hy⟩
    · cases e
    · injection e with e _
      subst e
      unfold nsg
      rw [decide_eq_false]
      omega
  induction a generalizing c with
  | nil =>
    cases c with
    | nil => exact ⟨rfl, h⟩
    | cons y c =>
      exfalso
      have := hb y (c ++ m) h
      rw [hc y (by simp)] at this
      cases this
  | cons x a ih =>
    cases c with
    | nil =>
      exfalso
      have := hmm x (a ++ b) h.symm
      rw [ha x (by simp)] at this
      cases this
    | cons y c =>
      injection h with h1 h2
      obtain ⟨e1, e2⟩ := ih h2 (fun z hz => ha z (by simp [hz])) (fun z hz => hc z (by simp [hz]))
      exact ⟨by rw [h1, e1], e2⟩
theorem trim9 (s : ByteArray) (hs : s.size ≤ 1000000000) : ∃ q, q.size ≤ s.size ∧ bts q = (bts s).dropWhile nsg ∧ ∀ W, Calls Tryz.prog 156 #[.string s, .string ⟨#[45, 46, 48, 49, 50, 51, 52, 53, 54, 55, 56, 57]⟩] W fun e w' => e = .returned (.string q) ∧ Below W.heap.size W w' := by
  have K : ∀ W, Calls Tryz.prog 156 _ _ _ := fun W => Any.strings_TrimLeft_laid Tryz.lays161 (by kernel_rfl) s ⟨#[45, 46, 48, 49, 50, 51, 52, 53, 54, 55, 56, 57]⟩ W (by decide) (ascii_of_all (by decide))
  have e : bts ⟨(Lib.trimLeftS s.data.toList (⟨#[45, 46, 48, 49, 50, 51, 52, 53, 54, 55, 56, 57]⟩ : ByteArray).data.toList).toArray⟩ = (bts s).dropWhile nsg := by
    unfold bts Lib.trimLeftS
    rw [← dropWhile_map9]
  refine ⟨_, ?_, e, K⟩
  have h1 := congrArg List.length e
  rw [bts_len] at h1
  rw [h1]
  have := (List.dropWhile_sublist nsg (l := bts s)).length_le
  rw [bts_len] at this
  exact this
set_option maxRecDepth 8000 in
set_option maxHeartbeats 2000000 in
theorem run9 (r : Nat) (s : ByteArray) (bad : Bool) (hs : s.size ≤ 600000) (W : World) (hb : Blk W r 106 [.string s, .bool bad]) :
    Calls Tryz.prog 132 #[.pointer (some ⟨r, 0, none⟩), .string ⟨#[45, 46, 48, 49, 50, 51, 52, 53, 54, 55, 56, 57]⟩] W fun e w' => ∃ (s' : ByteArray) (x : ByteArray), e = .returned (.string x) ∧ Hid (Kt r W w' s' bad ∧ bts s = bts x ++ bts s' ∧ (∀ y ∈ bts x, nsg y = true) ∧ (∀ c t, bts s' = c :: t → nsg c = false)) := by
  obtain ⟨q, hq, eq, KT⟩ := trim9 s (by omega)
  have K := KT W
  obtain ⟨a, b, h1, h2, h3, h4⟩ := run_split (bts s)
  rw [← eq] at h2
  subst h2
  have hal : a.length = s.size - q.size := by
    have := congrArg List.length h1
    rw [List.length_append, bts_len, bts_len] at this
    omega
  have HX : Hid (bts (s.extract 0 (s.size - q.size)) = a) := by
    show _ = _
    have : bts (s.extract 0 (s.size - q.size)) = (bts s).take (s.size - q.size) := by
      unfold bts
      rw [ByteArray.data_extract, Array.toList_extract, List.extract_eq_take_drop, List.drop_zero, Nat.sub_zero, List.map_take]
    rw [this, h1, ← hal, List.take_left]
  have HS : Hid (bts s = bts (s.extract 0 (s.size - q.size)) ++ bts q ∧ (∀ y ∈ bts (s.extract 0 (s.size - q.size)), nsg y = true) ∧ (∀ c t, bts q = c :: t → nsg c = false)) := by
    rw [HX.out]
    exact ⟨h1, h3, h4⟩
  have c0 : W.cell? ⟨r, 0, none⟩ = some (.string s) := hb.cell 0
  have HB : Hid (Blk W r 106 [.string s, .bool bad]) := hb
  have hrW := hb.lt
  have hsub : (s.size : Int) - (q.size : Int) = ((s.size - q.size : Nat) : Int) := by omega
  clear h1 h3 h4 hal HX hb KT eq
  go_enter Tryz.func132, Tryz.ntmps132
  go_wp2_with fail
  refine K.mono ?_
  rintro e w1 ⟨rfl, b1⟩
  have HB1 : Hid (Blk w1 r 106 [.string s, .bool bad]) := HB.out.below b1 hrW
  have HW1 : Hid (Below W.heap.size W w1) := b1
  have c1 : ∀ n, (w1.drewN n).cell? ⟨r, 0, none⟩ = some (.string s) := fun n => by rw [World.cell?_drewN]; exact HB1.out.cell 0
  have hle : s.size - q.size ≤ s.size := by omega
  generalize s.size - q.size = m at *
  clear K b1 c0 HB
  go_wp2
  go_quiet (fail)
  obtain ⟨w2, hw2⟩ : ∃ w2, w1.drewN nq = w2 := ⟨_, rfl⟩
  have HB2 : Hid (Blk w2 r 106 [.string s, .bool bad] ∧ Below W.heap.size W w2) := by
    rw [← hw2]
    exact ⟨HB1.out, HW1.out.trans ⟨rfl, rfl, rfl, Nat.le_refl _, fun _ _ => rfl⟩⟩
  rw [hw2]
  clear hw2 HB1 HW1 c1
  go_wp2_with (refine st_one rfl 9 (.tmp 29) (.tmp 27) rfl r 0 106 [.string s, .bool bad] (.string q) rfl rfl rfl rfl (by simp) HB2.out.1 sz9 ?_)
  intro w3 b3 g3
  have HF : Hid (Kt r W w3 q bad) := by
    refine ⟨b3, ⟨g3.os.trans HB2.out.2.os, g3.tape.trans HB2.out.2.tape, g3.output.trans HB2.out.2.output, Nat.le_trans HB2.out.2.size g3.size, fun x hx hne => ?_⟩⟩
    have := HB2.out.2.size
    rw [g3.block x (by omega) hne]
    exact HB2.out.2.block x hx
  clear b3 g3 HB2
  go_wp2
  go_ret
  exact ⟨q, s.extract 0 m, rfl, HF.out, HS.out⟩
end Go.Proofs.YtpfiejmhnkcjbaaGreatDoor
