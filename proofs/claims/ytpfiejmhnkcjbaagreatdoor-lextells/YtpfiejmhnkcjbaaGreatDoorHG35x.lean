/-
   ·  ·  ·  ·  ·  ·  ·  ·  ·  ·  · 
-/
import Derived.Test.YtpfiejmhnkcjbaaGreatDoorHG30x
import Derived.Test.YtpfiejmhnkcjbaaGreatDoorHG34x
import Derived.Test.YtpfiejmhnkcjbaaGreatDoorHG28x
import Derived.Laws.BytesArg
import Derived.Test.YtpfiejmhnkcjbaaGreatDoorHG6x
namespace Go.Proofs.YtpfiejmhnkcjbaaGreatDoor
set_option maxHeartbeats 4000000
set_option maxRecDepth 8000
open Go.RowKit Math
set_option linter.unusedVariables false
set_option linter.unusedSimpArgs false
theorem Bs.read {g B r : Nat} {w w' : World} {v : Value} {l : List Nat} (h : Bs g B w v l) (k : w.grownBy w' (some r)) (hr : r < B) : Bs g B w' v l := by
 have hne : ∀ x, B <= x -> some x ≠ some r := fun x hx e => by injection e with e; omega
 refine ⟨h.blk.imp (fun b => b.kept k (hne g h.le)) (fun b => b.kept k (hne g h.le)), World.ownsRow.kept h.own k (.inr fun c => ?_), h.ne, h.le⟩
 have := (World.ownsRow.lt h.own r c).1
 omega
structure Rb9 (r g B : Nat) (W wr : World) (s : ByteArray) (bad : Bool) (v : Value) (acc : List Nat) : Prop where
 kt : Kt r W wr s bad
 bs : Bs g B wr v acc
theorem Rb9.read {r g B : Nat} {W wr w' : World} {s s' : ByteArray} {bad bad' : Bool} {v : Value} {acc : List Nat} (h : Rb9 r g B W wr s bad v acc) (hr : r < B) (k : Kt r wr w' s' bad') : Rb9 r g B W w' s' bad' v acc :=
 ⟨h.kt.trans k, h.bs.read k.gr hr⟩
theorem Rb9.write {r g B : Nat} {W wr w' : World} {s : ByteArray} {bad : Bool} {v v' : Value} {acc acc' : List Nat} (h : Rb9 r g B W wr s bad v acc) (hr : r < B) (hW : W.heap.size <= B) (k : Bw g B wr w' v v' acc') : Rb9 r g B W w' s bad v' acc' := by
 have hg := h.bs.le
 have hv : ∀ x, x < B -> v.ownBlock ≠ some x := fun x hx e => by have := (World.ownsRow.lt h.bs.own x e).1; omega
 have hrl := h.kt.blk.lt
 refine ⟨⟨k.blk h.kt.blk (by omega) (hv r hr), ⟨k.os.trans h.kt.gr.os, k.tape.trans h.kt.gr.tape, k.output.trans h.kt.gr.output, Nat.le_trans h.kt.gr.size k.size, fun x hx hne => ?_⟩⟩, k.bs⟩
 have hz := h.kt.gr.size
 rw [k.keep x (by omega) (by omega) (hv x (by omega))]
 exact h.kt.gr.block x hx hne
theorem Rb9.fin {r g B : Nat} {W wr w' : World} {s : ByteArray} {bad : Bool} {v : Value} {acc : List Nat} (h : Rb9 r g B W wr s bad v acc) (hr : r < B) (hW : W.heap.size <= B) (k : Below B wr w') : Kt r W w' s bad := by
 refine ⟨h.kt.blk.below k hr, ⟨k.os.trans h.kt.gr.os, k.tape.trans h.kt.gr.tape, k.output.trans h.kt.gr.output, Nat.le_trans h.kt.gr.size k.size, fun x hx hne => ?_⟩⟩
 rw [k.block x (by omega)]
 exact h.kt.gr.block x hx hne
def sln (r : Nat) (w : World) : Nat := match w.cell? ⟨r, 0, none⟩, w.cell? ⟨r, 1, none⟩ with
 | some (.string s), some (.bool b) => if b then 0 else s.size + 1
 | _, _ => 0
theorem sln_of {r : Nat} {w : World} {s : ByteArray} {b : Bool} (h : Blk w r 106 [.string s, .bool b]) : sln r w = if b then 0 else s.size + 1 := by
 unfold sln
 rw [h.cell 0, h.cell 1]
 rfl
theorem text9 (r : Nat) (s : ByteArray) (bad : Bool) (hs : s.size <= 600000) (W : World) (hb : Blk W r 106 [.string s, .bool bad]) :
 Calls Tryz.prog 106 #[.pointer (some ⟨r, 0, none⟩)] W fun e w' => ∃ (s' : ByteArray) (bad' : Bool) (x : ByteArray), e = .returned (.string x) /\ Hid (Kt r W w' s' bad' /\ Rt pQ (fun _ m => ∀ t, m ≠ 39 :: t) (bts s) bad (bts s') bad' x /\ (bad' = false -> x.size + 1 + s'.size <= s.size) /\ x.size <= 600000 /\ s'.size <= s.size) := by
 have K := must9 r s ⟨#[39]⟩ bad W hb
 have hrW := hb.lt
 clear hb
 go_enter Tryz.func106, Tryz.ntmps106
 go_wp2_with fail
 refine K.mono ?_
 rintro e w1 ⟨s1, b1, rfl, H1⟩
 clear K
 go_wp2_with (refine al_zero rfl 86 rfl zbl z68 ?_)
 intro g w2 hg bl2 gr2
 have HB2 : Hid (Below w1.heap.size w1 w2) := (Below.refl _ _).grown gr2 (Nat.le_refl _) (fun k e => by cases e)
 have hW1 : W.heap.size <= w1.heap.size := H1.out.1.gr.size
 have HI0 : Hid (Rb9 r g w1.heap.size W w2 s1 b1 (.slice none 0 0) [] /\ Tx (bts s) bad (bts s1) b1 []) := by
  refine ⟨⟨H1.out.1.then HB2.out, bs_new bl2 hg⟩, Tx.start H1.out.2.1 fun h => ?_⟩
  have := congrArg List.length (H1.out.2.2.1 h)
  rw [List.length_append, bts_len, bts_len] at this
  have h1 : (⟨#[39]⟩ : ByteArray).size = 1 := rfl
  rw [bts_len] at this
  rw [bts_len, bts_len]
  omega
 have hs1 : s1.size <= s.size := H1.out.2.2.2
 clear H1 bl2 gr2 HB2
 go_wp2
 go_loopw [4] (fun _ wr => ∃ (sk : ByteArray) (bk : Bool) (v : Value) (acc : List Nat), sk.size <= s.size /\ acc.length <= 600000 /\ Hid (Rb9 r g w1.heap.size W wr sk bk v acc /\ Tx (bts s) bad (bts sk) bk acc)) (fun _ wr => sln r wr)
 case atStart => exact ⟨s1, b1, _, [], hs1, by simp, HI0.out⟩
 case round =>
  clear HI0
  obtain ⟨sk, bk, v, acc, hsk, hac, HJ⟩ := hrel
  have HR : Hid (Rb9 r g w1.heap.size W wr sk bk v acc) := HJ.out.1
  have HT : Hid (Tx (bts s) bad (bts sk) bk acc) := HJ.out.2
  have hrB : r < w1.heap.size := by omega
  have c1 : wr.cell? ⟨r, 1, none⟩ = some (.bool bk) := HR.out.kt.blk.cell 1
  have HM : Hid (sln r wr = if bk then 0 else sk.size + 1) := sln_of HR.out.kt.blk
  clear HJ
  cases bk with
  | true =>
    have HF : Hid (Kt r W wr sk true /\ Rt pQ (fun _ m => ∀ t, m ≠ 39 :: t) (bts s) bad (bts sk) true em) := ⟨HR.out.kt, HT.out.isBad em⟩
    clear HR HT HM
    go_wp2
    go_ret
    exact ⟨sk, true, em, rfl, HF.out.1, HF.out.2, fun h => (by cases h), by decide, hsk⟩
  | false =>
    have K := next9 r sk false (by omega) wr HR.out.kt.blk
    go_wp2_with fail
    refine K.mono ?_
    rintro e w3 ⟨s3, b3, c, rfl, H3⟩
    clear c1
    have HR3 : Hid (Rb9 r g w1.heap.size W w3 s3 b3 v acc) := HR.out.read hrB H3.out.1
    have hac2 : acc.length + 1 <= 600000 := by
     have := HT.out.pr rfl
     rw [bts_len, bts_len] at this
     omega
    have hc256 : c < 256 := H3.out.2.1
    clear K
    -- what goes on: a byte more
    have HG : Hid (∀ (s4 : ByteArray) (b4 : Bool) (x : Nat) (w4 w5 : World) (v5 : Value), Kt r w3 w4 s4 b4 -> Bw g w1.heap.size w4 w5 v v5 (acc ++ [x]) -> Rb9 r g w1.heap.size W w5 s4 b4 v5 (acc ++ [x])) := fun s4 b4 x w4 w5 v5 k1 k2 => (HR3.out.read hrB k1).write hrB hW1 k2
    by_cases h39 : c = 39
    . have hc39 : ((c : Int) == 39) = true := by rw [h39]; rfl
      have H39 : Hid (bts sk = 39 :: bts s3 /\ b3 = false /\ sk.size = s3.size + 1) := by
       rcases H3.out.2.2 with ⟨_, _, _, z⟩ | ⟨z1, z2, z3⟩
       . omega
       . exact ⟨by rw [z1, h39], z2, z3⟩
      obtain rfl : b3 = false := H39.out.2.1
      have hz3 : sk.size = s3.size + 1 := H39.out.2.2
      have K4 := skip9 r s3 ⟨#[39]⟩ false w3 HR3.out.kt.blk
      have HC9 : Hid (c = 39) := h39
      clear H3 h39
      go_wp2_with fail
      refine K4.mono ?_
      rintro e w4 ⟨s4, is, rfl, H4⟩
      cases is with
      | false =>
        have H4n : Hid (s4 = s3 /\ ∀ t, bts s3 ≠ [39] ++ t) := by
         rcases H4.out.2 with ⟨h, _⟩ | ⟨_, h⟩
         . cases h
         . exact h
        have HR4 : Hid (Rb9 r g w1.heap.size W w4 s4 false v acc) := HR3.out.read hrB H4.out.1
        have K5 := bstr9 HR4.out.bs HT.out.oc
        have HQ : Hid (Rt pQ (fun _ m => ∀ t, m ≠ 39 :: t) (bts s) bad (bts s4) false (ofB acc) /\ (ofB acc).size + 1 + s4.size <= s.size /\ (ofB acc).size <= 600000 /\ s4.size <= s.size) := by
         obtain ⟨e, hn⟩ := H4n.out
         have hp := HT.out.pr rfl
         rw [bts_len, bts_len] at hp
         refine ⟨?_, ?_, ?_, ?_⟩
         . rw [e]; exact HT.out.done H39.out.1 hn
         . rw [ofB_size, e]; omega
         . rw [ofB_size]; omega
         . rw [e]; omega
        clear K4 H4 H4n HR3 HR HT HM H39 HG
        generalize ofB acc = X at *
        go_wp2_with fail
        refine K5.mono ?_
        rintro e w5 ⟨rfl, b5⟩
        have HF : Hid (Kt r W w5 s4 false) := HR4.out.fin hrB hW1 b5
        clear K5 b5 HR4
        go_wp2
        go_ret
        exact ⟨s4, false, X, rfl, HF.out, HQ.out.1, fun _ => HQ.out.2.1, HQ.out.2.2.1, HQ.out.2.2.2⟩
      | true =>
        have H4y : Hid (bts s3 = 39 :: bts s4) := by
         rcases H4.out.2 with ⟨_, h⟩ | ⟨h, _⟩
         . exact h
         . cases h
        have hz4 : s3.size = s4.size + 1 := by
         have := congrArg List.length H4y.out
         rw [List.length_cons, bts_len, bts_len] at this
         exact this
        have K5 := wrb9 c (HR3.out.bs.read H4.out.1.gr hrB) (by omega)
        have HKt4 : Hid (Kt r w3 w4 s4 false) := H4.out.1
        have HT5 : Hid (Tx (bts s) bad (bts s4) false (acc ++ [c])) := by rw [HC9.out]; exact HT.out.quote (by rw [H39.out.1, H4y.out])
        clear K4 H4 HR H39 H4y HT HC9
        go_wp2_with fail
        refine K5.mono ?_
        rintro e w5 ⟨v5, rfl, H5⟩
        have HR5 : Hid (Rb9 r g w1.heap.size W w5 s4 false v5 (acc ++ [c])) := HG.out s4 false c w4 w5 v5 HKt4.out H5.out
        have HM5 : Hid (sln r w5 < sln r wr) := by
         show _ < _
         rw [sln_of HR5.out.kt.blk, HM.out]
         simp
         omega
        clear K5 H5 HR3 HKt4 HG HM
        go_wp2
        go_roundw
        case rel => exact ⟨s4, false, v5, _, by omega, by simp; omega, HR5.out, HT5.out⟩
        case measure => exact HM5.out
    have hc39 : ((c : Int) == 39) = false := by simp; omega
    by_cases h92 : c = 92
    . have hc92 : ((c : Int) == 92) = true := by rw [h92]; rfl
      have H92 : Hid (bts sk = 92 :: bts s3 /\ b3 = false /\ sk.size = s3.size + 1) := by
       rcases H3.out.2.2 with ⟨_, _, _, z⟩ | ⟨z1, z2, z3⟩
       . omega
       . exact ⟨by rw [z1, h92], z2, z3⟩
      obtain rfl : b3 = false := H92.out.2.1
      have hz3 : sk.size = s3.size + 1 := H92.out.2.2
      have K4 := pair9 r s3 false (by omega) w3 HR3.out.kt.blk
      clear H3 h92
      go_wp2_with fail
      refine K4.mono ?_
      rintro e w4 ⟨s4, b4, x, rfl, H4⟩
      have hz4 : s4.size <= s3.size := H4.out.1.le
      have K5 := wrb9 x (HR3.out.bs.read H4.out.1.kt.gr hrB) (by omega)
      have HKt4 : Hid (Kt r w3 w4 s4 b4) := H4.out.1.kt
      have HT5 : Hid (Tx (bts s) bad (bts s4) b4 (acc ++ [x])) := HT.out.esc H92.out.1 H4.out.2.1 H4.out.2.2 (fun h => by
       have := H4.out.1.pr h
       rw [bts_len, bts_len]
       omega)
      clear K4 H4 HR H92 HT
      go_wp2_with fail
      refine K5.mono ?_
      rintro e w5 ⟨v5, rfl, H5⟩
      have HR5 : Hid (Rb9 r g w1.heap.size W w5 s4 b4 v5 (acc ++ [x])) := HG.out s4 b4 x w4 w5 v5 HKt4.out H5.out
      have HM5 : Hid (sln r w5 < sln r wr) := by
       show _ < _
       rw [sln_of HR5.out.kt.blk, HM.out]
       cases b4 <;> simp <;> omega
      clear K5 H5 HR3 HKt4 HG HM
      go_wp2
      go_roundw
      case rel => exact ⟨s4, b4, v5, _, by omega, by simp; omega, HR5.out, HT5.out⟩
      case measure => exact HM5.out
    have hc92 : ((c : Int) == 92) = false := by simp; omega
    have K5 := wrb9 c HR3.out.bs (by omega)
    have HT5 : Hid ((b3 = false -> Tx (bts s) bad (bts s3) false (acc ++ [c])) /\ (b3 = true -> Tx (bts s) bad (bts s3) true (acc ++ [c])) /\ (sln r w3 < sk.size + 1) /\ s3.size <= sk.size) := by
     rcases H3.out.2.2 with ⟨z1, z2, z3, z4⟩ | ⟨z1, z2, z3⟩
     . subst z3
       refine ⟨fun h => (by cases h), fun _ => ?_, ?_, by rw [z2]; omega⟩
       . have hn : bts sk = [] := List.eq_nil_of_length_eq_zero (by rw [bts_len]; exact z1)
         have h1 := HT.out
         rw [hn] at h1
         have h2 := h1.none em
         refine ⟨by rw [z2, hn]; exact h2.suf, fun _ => rfl, fun hb y m hm el => ?_, fun h => (by cases h), h1.oc.app (fun q hq => by simp at hq; omega)⟩
         have := (h2.co hb y m hm el).1
         cases this
       . rw [sln_of H3.out.1.blk]; simp
     . subst z2
       refine ⟨fun _ => HT.out.plain z1 (by omega) (by omega) hc256, fun h => (by cases h), ?_, by omega⟩
       rw [sln_of H3.out.1.blk]; simp; omega
    have HKt3 : Hid (Kt r w3 w3 s3 b3) := ⟨H3.out.1.blk, World.grownBy.refl _ _⟩
    have HM3 : Hid (sln r w3 = if b3 then 0 else s3.size + 1) := sln_of H3.out.1.blk
    clear H3 HR HT
    go_wp2_with fail
    refine K5.mono ?_
    rintro e w5 ⟨v5, rfl, H5⟩
    have HR5 : Hid (Rb9 r g w1.heap.size W w5 s3 b3 v5 (acc ++ [c])) := HG.out s3 b3 c w3 w5 v5 HKt3.out H5.out
    have HM5 : Hid (sln r w5 < sln r wr) := by
     show _ < _
     rw [sln_of HR5.out.kt.blk, HM.out, <- HM3.out]
     exact HT5.out.2.2.1
    have HT6 : Hid (Tx (bts s) bad (bts s3) b3 (acc ++ [c])) := by
     cases b3 with
     | true => exact HT5.out.2.1 rfl
     | false => exact HT5.out.1 rfl
    have hz3 : s3.size <= sk.size := HT5.out.2.2.2
    clear K5 H5 HR3 HKt3 HG HM HM3 HT5
    go_wp2
    go_roundw
    case rel => exact ⟨s3, b3, v5, _, by omega, by simp; omega, HR5.out, HT6.out⟩
    case measure => exact HM5.out
end Go.Proofs.YtpfiejmhnkcjbaaGreatDoor
namespace Go.Proofs.YtpfiejmhnkcjbaaGreatDoor
open Go.RowKit Math
set_option linter.unusedVariables false
set_option linter.unusedSimpArgs false
end Go.Proofs.YtpfiejmhnkcjbaaGreatDoor
namespace Go.Proofs.YtpfiejmhnkcjbaaGreatDoor
open Go.RowKit Math
set_option linter.unusedVariables false
set_option linter.unusedSimpArgs false
end Go.Proofs.YtpfiejmhnkcjbaaGreatDoor
namespace Go.Proofs.YtpfiejmhnkcjbaaGreatDoor
open Go.RowKit Math
set_option linter.unusedVariables false
set_option linter.unusedSimpArgs false
end Go.Proofs.YtpfiejmhnkcjbaaGreatDoor
namespace Go.Proofs.YtpfiejmhnkcjbaaGreatDoor
open Go.RowKit Math
set_option linter.unusedVariables false
set_option linter.unusedSimpArgs false
structure Vo9 (dp : Int) (r : Nat) (W w' : World) (s s' : ByteArray) (bad bad' : Bool) (p : Vt) (na : Option Addr) (nc : Nat) (ka : Option Addr) (kc : Nat) : Prop where
 kt : Kt r W w' s' bad'
 vl : ∃ Lp, VlL w' p na nc ka kc Lp /\ ∀ x ∈ Lp, W.heap.size <= x /\ x < w'.heap.size
 wf : WfV p
 vx : Vx dp (bts s) bad (bts s') bad' p
end Go.Proofs.YtpfiejmhnkcjbaaGreatDoor
namespace Go.Proofs.YtpfiejmhnkcjbaaGreatDoor
open Go.RowKit Math
set_option linter.unusedVariables false
set_option linter.unusedSimpArgs false
end Go.Proofs.YtpfiejmhnkcjbaaGreatDoor
namespace Go.Proofs.YtpfiejmhnkcjbaaGreatDoor
open Go.RowKit Math
set_option linter.unusedVariables false
set_option linter.unusedSimpArgs false
end Go.Proofs.YtpfiejmhnkcjbaaGreatDoor
namespace Go.Proofs.YtpfiejmhnkcjbaaGreatDoor
open Go.RowKit Math
set_option linter.unusedVariables false
set_option linter.unusedSimpArgs false
theorem vl_leaf9 (w : World) (k n s : Int) (t : ByteArray) : VlL w (⟨k, n, s, t, []⟩, .nil) none 0 none 0 [] :=
 ⟨[], [], rfl, .inl ⟨rfl, rfl⟩, ⟨Nat.le_refl _, fun _ => rfl, by decide⟩, ⟨Nat.le_refl _, fun _ => rfl, by decide⟩, .inl ⟨rfl, rfl⟩⟩
theorem wf_leaf9 (k n s : Int) (t : ByteArray) (k0 : 0 <= k /\ k <= 9) (n0 : -9223372036854775808 <= n /\ n < 9223372036854775808) (s0 : 0 <= s /\ s <= 18) (ht : t.size <= 1000000000) : WfV (⟨k, n, s, t, []⟩, .nil) :=
 ⟨⟨by show (-9223372036854775808 : Int) <= k; omega, by show k < 9223372036854775808; omega, n0.1, n0.2, by show (-9223372036854775808 : Int) <= s; omega, by show s < 9223372036854775808; omega, by show t.size <= _; omega, Nat.zero_le _, fun x hx => by cases hx⟩, Nat.zero_le _, trivial⟩
theorem kt_kept {r g : Nat} {W w w' : World} {s : ByteArray} {b : Bool} (h : Kt r W w s b) (k : w.grownBy w' (some g)) (hg : W.heap.size <= g) (hr : r < W.heap.size) : Kt r W w' s b := kr_grown h k (fun x c => by injection c with c; omega)
end Go.Proofs.YtpfiejmhnkcjbaaGreatDoor
namespace Go.Proofs.YtpfiejmhnkcjbaaGreatDoor
open Go.RowKit Math
set_option linter.unusedVariables false
set_option linter.unusedSimpArgs false
structure Tp9 (W w' : World) (s : ByteArray) (p : Vt) (na : Option Addr) (nc : Nat) (ka : Option Addr) (kc : Nat) (E : Int) : Prop where
 bl : Below W.heap.size W w'
 vl : Vl w' p na nc ka kc
 wf : WfV p
 wz : ws p <= 600000
 ok : (E = 0 /\ encE p = 0 /\ prV p = bts s /\ (∀ y, WfV y -> encE y = 0 -> prV y = bts s -> y = p)) ∨ (E = 3 /\ p = lf 0 0 0 em /\ (s.size <= 524288 -> ∀ y, WfV y -> encE y = 0 -> prV y ≠ bts s))
theorem vl_zero (w : World) : Vl w (lf 0 0 0 em) none 0 none 0 := (vl_leaf9 w 0 0 0 em).vl
theorem wf_zero : WfV (lf 0 0 0 em) := wf_leaf9 0 0 0 em (by omega) (by omega) (by omega) (by decide)
theorem tp_no {W w' : World} {s : ByteArray} (hb : Below W.heap.size W w') (h : s.size <= 524288 -> ∀ y, WfV y -> encE y = 0 -> prV y ≠ bts s) : Tp9 W w' s (lf 0 0 0 em) none 0 none 0 3 :=
 ⟨hb, vl_zero _, wf_zero, by decide, .inr ⟨rfl, rfl, h⟩⟩
end Go.Proofs.YtpfiejmhnkcjbaaGreatDoor
namespace Go.Proofs.YtpfiejmhnkcjbaaGreatDoor
open Go.RowKit Math
set_option linter.unusedVariables false
set_option linter.unusedSimpArgs false
end Go.Proofs.YtpfiejmhnkcjbaaGreatDoor
namespace Go.Proofs.YtpfiejmhnkcjbaaGreatDoor
open Go.RowKit Math
set_option linter.unusedVariables false
set_option linter.unusedSimpArgs false
theorem strOf9 (l : List Nat) (h : Oct l) : strOfNums (l.map fun n : Nat => (n : Int)) = ofB l := by
 unfold strOfNums ofB
 congr 2
 rw [List.map_map]
 apply List.map_congr_left
 intro x hx
 have := h x hx
 simp
theorem conv_byt9 {w : World} {a : Option Addr} {l : List Nat} {c : Nat} (h : Byt w a l) (ho : Oct l) (hnil : a = none -> c = 0) : (convert 34 9 (.slice a l.length c)).run Tryz.prog w = .ok (.string (ofB l)) w := by
 cases a with
 | none =>
   have hl : l = [] := by
    rcases h with h | ⟨_, _, h, _⟩
    . exact h
    . cases h
   subst hl
   exact run_convert_bytes_nil w 34 5 Tryz.underlying34 Tryz.underlying5 0 c 9 Tryz.underlying9
 | some ad =>
   rw [<- strOf9 _ ho]
   by_cases hl : l = []
   . subst hl
     rw [run_convert_bytes_string w 34 9 5 (some ad) ([] : List Nat).length c Tryz.underlying34 Tryz.underlying5 Tryz.underlying9]
     have hl : (loadCells ad 0).run Tryz.prog w = .ok #[] w := by simpa using run_loadCells_list (P := Tryz.prog) w ad [] (by simp)
     simp [Conv.bytesToString, hl, strOfNums]
     try rfl
   . rcases h with h | ⟨b, o, h, hc⟩
     . exact absurd h hl
     . obtain rfl := Option.some.inj h
       refine run_convert_bytes_arg w 34 5 Tryz.underlying34 Tryz.underlying5 b o l.length c _ (by rw [List.length_map]) (fun k hk => ?_) 9 Tryz.underlying9
       have := hc k hk
       rw [this]
       simp [List.getD_eq_getElem?_getD, hk]
end Go.Proofs.YtpfiejmhnkcjbaaGreatDoor
namespace Go.Proofs.YtpfiejmhnkcjbaaGreatDoor
set_option maxHeartbeats 2000000
set_option maxRecDepth 8000
open Go.RowKit Math
set_option linter.unusedVariables false
set_option linter.unusedSimpArgs false
theorem q_hex {C : World -> Prop} {a : Act} {o : Oper} {K : Act -> Prop} (x : Operand) (ho : o.op = .index 9 (.const (.string ⟨#[48, 49, 50, 51, 52, 53, 54, 55, 56, 57, 97, 98, 99, 100, 101, 102]⟩)) x) (n : Nat) (h : n < 16) (z : Int) (hx : a.eval x = .int .u8 z) (hz : z = (n : Int)) (hk : K (a.put o.dst (.int .u8 ((hxd n : Nat) : Int)))) : o.quiet Tryz.prog a C K :=
 ⟨_, fun w _ => by
   subst hz
   have hi := hx_idx n h w
   unfold Oper.quietAt execOp
   simp only [ho, hx]
   go_simp, hk⟩
theorem oper_three {o : Oper} {a : Act} {w : World} {K : Act -> World -> Prop} {Q : Exit -> Act -> World -> Prop} (l s t : Nat) (ho : o.op = .buildSlice 34 3 #[(0, .const (.int .u8 (l : Int))), (1, .tmp s), (2, .tmp t)]) (m n : Nat) (hx : a.tmps.getD s undef = .int .u8 (m : Int)) (hy : a.tmps.getD t undef = .int .u8 (n : Int)) (hK : K (a.put o.dst (.slice (some ⟨w.heap.size, 0, none⟩) 3 3)) (w.alloc (.cells (vals [l, m, n]).toArray 5))) : Oper.wp Tryz.prog o a w K Q := by
 have hx' : a.tmps[s]?.getD undef = .int .u8 (m : Int) := by simpa using hx
 have hy' : a.tmps[t]?.getD undef = .int .u8 (n : Int) := by simpa using hy
 unfold Oper.wp execOp
 simp only [ho]
 go_simp
 exact hK
theorem oper_duo {o : Oper} {a : Act} {w : World} {K : Act -> World -> Prop} {Q : Exit -> Act -> World -> Prop} (s t : Nat) (ho : o.op = .buildSlice 34 2 #[(0, .tmp s), (1, .tmp t)]) (m n : Nat) (hx : a.tmps.getD s undef = .int .u8 (m : Int)) (hy : a.tmps.getD t undef = .int .u8 (n : Int)) (hK : K (a.put o.dst (.slice (some ⟨w.heap.size, 0, none⟩) 2 2)) (w.alloc (.cells (vals [m, n]).toArray 5))) : Oper.wp Tryz.prog o a w K Q := by
 have hx' : a.tmps[s]?.getD undef = .int .u8 (m : Int) := by simpa using hx
 have hy' : a.tmps[t]?.getD undef = .int .u8 (n : Int) := by simpa using hy
 unfold Oper.wp execOp
 simp only [ho]
 go_simp
 exact hK
theorem own_single (w : World) (x : Nat) (base : Nat) (hb : base <= w.heap.size) : Own (w.alloc (.cells #[.int .u8 (x : Int)] 5)) base (.slice (some ⟨w.heap.size, 0, none⟩) 1 1) [x] :=
 World.ownsRow_lit w #[.int .u8 (x : Int)] 1 hb (by decide) rfl
theorem idx9 (s : ByteArray) (k : Nat) (h : k < s.size) (w : World) : (Instr.index 9 (.string s) (.int .i64 (k : Int))).run Tryz.prog w = .ok (.int .u8 (((bts s).getD k 0 : Nat) : Int)) w := by
 have e3 : s[k]? = some (s[k]'h) := by simp [h]
 rw [bget9 s k h]
 simp [Instr.index, asIntOf, run_underlying Tryz.underlying9, e3]
theorem quote9 (s : ByteArray) (hs : s.size <= 200000000) (W : World) :
 Calls Tryz.prog 13 #[.string s] W fun e w' => e = .returned (.string (ofB (pQ s))) /\ Below W.heap.size W w' := by
 have HI0 : Hid (Own (W.alloc (.cells #[.int .u8 ((39 : Nat) : Int)] 5)) W.heap.size (.slice (some ⟨W.heap.size, 0, none⟩) 1 1) (39 :: pS ((bts s).take 0)) /\ Below W.heap.size W (W.alloc (.cells #[.int .u8 ((39 : Nat) : Int)] 5))) := ⟨own_single W 39 _ (Nat.le_refl _), (Below.refl _ _).alloc (Nat.le_refl _) _⟩
 go_enter Tryz.func13, Tryz.ntmps13
 go_wp2
 go_loopw [3, 4, 5] (fun b i _ wr => ∃ (k : Nat), k <= s.size /\ i = .int .i64 (k : Int) /\ Hid (Own wr W.heap.size b (39 :: pS ((bts s).take k)) /\ Below W.heap.size W wr)) (fun _ i _ _ => s.size - (intOf i).toNat)
 case atStart => exact ⟨0, by omega, rfl, HI0.out⟩
 case round =>
  clear HI0
  obtain ⟨k, hk, rfl, HI⟩ := hrel
  have hlen : (39 :: pS ((bts s).take k)).length <= 800000001 := by
   have := (pS_len ((bts s).take k)).2
   rw [List.length_take, bts_len] at this
   rw [List.length_cons]
   omega
  have hsz := HI.out.2.size
  by_cases hk2 : k < s.size
  case neg =>
   have HL : Hid (39 :: (pS ((bts s).take k) ++ [39]) = pQ s) := by
    show _ = _
    rw [List.take_of_length_le (by rw [bts_len]; omega)]
    rfl
   go_wp2_with (at_builtin; go_must (refine ap_bytes rfl (.tmp 46) (.tmp 47) rfl W.heap.size _ (39 :: pS ((bts s).take k)) rfl (HI.out.1.alloc _) _ _ _ [39] rfl rfl (byt_lit wr [39]) (by simp) (by simp at hlen ⊢; omega) (by simp; omega) ?_))
   intro v1 w1 A1
   rw [HL.out] at A1
   have HB : Hid (Below W.heap.size W w1) := A1.below (HI.out.1.alloc _) (HI.out.2.alloc (by omega) _) (by simp; omega) (Nat.le_refl _)
   obtain ⟨a, c, rfl, hb, hn, _⟩ := A1.own.byt
   have hcv := conv_byt9 hb (pQ_pln s).oct hn
   clear A1 hb hn HL HI hlen
   generalize (pQ s).length = n at *
   go_wp2
   go_ret
   exact ⟨rfl, HB.out⟩
  have hx := bts_oct s ((bts s).getD k 0) (by rw [List.getD_eq_getElem?_getD, List.getElem?_eq_getElem (by rw [bts_len]; exact hk2)]; exact List.getElem_mem _)
  have hidx := idx9 s k hk2
  have HN : Hid (pS ((bts s).take (k + 1)) = pS ((bts s).take k) ++ pE ((bts s).getD k 0)) := pS_next (by rw [bts_len]; exact hk2)
  generalize (bts s).getD k 0 = x at *
  obtain ⟨L, hL⟩ : ∃ L, 39 :: pS ((bts s).take k) = L := ⟨_, rfl⟩
  rw [hL] at hlen
  have HS : Hid (∀ v3 w2 w3, Below wr.heap.size wr w2 -> Ap W.heap.size w2 w3 u3 v3 (L ++ pE x) -> Own w3 W.heap.size v3 (39 :: pS ((bts s).take (k + 1))) /\ Below W.heap.size W w3) := fun v3 w2 w3 hb A => by
   have h1 := HI.out.1
   rw [hL] at h1
   refine ⟨?_, A.below (h1.below hb) (HI.out.2.trans (hb.mono HI.out.2.size)) (by have := hb.size; omega) (Nat.le_refl _)⟩
   rw [HN.out, <- List.cons_append, hL]
   exact A.own
  have HO : Hid (Own wr W.heap.size u3 L) := by rw [<- hL]; exact HI.out.1
  clear HI HN hL
  by_cases h39 : x = 39
  . have hb : ((x : Int) == 39) = true := by rw [h39]; rfl
    have HE : Hid (pE x = [39, 39]) := by show _ = _; unfold pE; rw [if_pos h39]
    clear h39
    go_wp2_with (at_builtin; go_must (refine ap_bytes rfl (.tmp 23) (.tmp 24) rfl W.heap.size _ L rfl (HO.out.alloc _) _ _ _ [39, 39] rfl rfl (byt_lit wr [39, 39]) (by simp) (by simp; omega) (by simp; omega) ?_))
    intro v1 w1 A1
    have HI2 : Hid (Own w1 W.heap.size v1 (39 :: pS ((bts s).take (k + 1))) /\ Below W.heap.size W w1) := HS.out v1 _ w1 ((Below.refl _ _).alloc (Nat.le_refl _) _) (by rw [HE.out]; exact A1)
    clear A1 HS HO HE hidx
    go_wp2
    go_roundw
    case rel => exact ⟨k + 1, by omega, by go_num, HI2.out⟩
    case measure => simp [intOf]; omega
  have hb : ((x : Int) == 39) = false := by simp; omega
  by_cases hesc : x < 32 ∨ 126 < x ∨ x = 92
  . have HE : Hid (pE x = [92, hxd (x / 16), hxd (x % 16)]) := by show _ = _; unfold pE; rw [if_neg h39, if_pos hesc]; rfl
    obtain ⟨C, hC⟩ : ∃ C : World -> Prop, C = fun _ => True := ⟨_, rfl⟩
    have CT : Hid (∀ w', C w') := fun w' => by rw [hC]; trivial
    have D0 : Hid (Below wr.heap.size wr { wr with drawn := wr.drawn + 1 }) := Below.drew (Below.refl _ _)
    have HOv : Hid (Own { wr with drawn := wr.drawn + 1 } W.heap.size u3 L) := HO.out.below D0.out
    clear hC h39
    by_cases h1 : x < 32
    . clear hesc
      go_wp2
      refine region_calm C 9 (by kernel_rfl) ?_
      have C0 : C { wr with drawn := wr.drawn + 1 } := CT.out _
      have hCp : ∀ p : Prop, (∀ W, C W -> p) ↔ p := fun p => ⟨fun h => h _ C0, fun h _ _ => h⟩
      have hsz2 : W.heap.size <= ({ wr with drawn := wr.drawn + 1 } : World).heap.size := hsz
      generalize ({ wr with drawn := wr.drawn + 1 } : World) = y0 at *
      refine seg 3 [0, 1, 2, 3, 4, 5, 6] rfl (by kernel_rfl) whole_blind C0 (by kernel_rfl) ?_
      change wpQuiet _ _ _ _ (_ :: _ :: _ :: _ :: _ :: _ :: _ :: []) _
      repeat (first
       | go_big_quiet_skip
       | (go_big_quiet_want
          first
          | (refine q_hex (.tmp 39) rfl (x / 16) (by omega) _ rfl (by omega) ?_
             simp only [Act.put, List.setIfInBounds_toArray, List.set_cons_zero, List.set_cons_succ]
             go_big_quiet_on)
          | (refine q_hex (.tmp 42) rfl (x % 16) (by omega) _ rfl (by omega) ?_
             simp only [Act.put, List.setIfInBounds_toArray, List.set_cons_zero, List.set_cons_succ]
             go_big_quiet_on)
          | (go_big_quiet_op
             go_big_quiet_on)))
      refine wpQuiet_nil ?_
      refine lone_do (i := 7) 2 rfl (by kernel_rfl) rfl (by rfl) ?_
      intro K hK
      refine oper_three 92 40 43 rfl (hxd (x / 16)) (hxd (x % 16)) rfl rfl ?_
      refine hK _ _ (CT.out _) ?_
      simp only [Act.put, List.setIfInBounds_toArray, List.set_cons_zero, List.set_cons_succ]
      refine lone_do (i := 8) 1 rfl (by kernel_rfl) rfl (by rfl) ?_
      intro K hK
      refine oper_apb (.tmp 37) (.tmp 44) rfl W.heap.size u3 L rfl (HOv.out.alloc _) _ _ _ [92, hxd (x / 16), hxd (x % 16)] rfl rfl (byt_lit y0 [92, hxd (x / 16), hxd (x % 16)]) (by simp) (by simp; omega) (by simp; omega) ?_
      intro v1 w1 A1
      have HI2 : Hid (Own w1 W.heap.size v1 (39 :: pS ((bts s).take (k + 1))) /\ Below W.heap.size W w1) := HS.out v1 _ w1 (D0.out.alloc D0.out.size _) (by rw [HE.out]; exact A1)
      clear A1
      refine hK _ _ (CT.out _) ?_
      simp only [Act.put, List.setIfInBounds_toArray, List.set_cons_zero, List.set_cons_succ]
      refine lone_calm (i := 9) 0 rfl (by kernel_rfl) rfl rfl (CT.out _) ?_
      go_big_quiet_want
      go_big_quiet_op
      go_big_quiet_on
      refine wpQuiet_nil ?_
      refine anyC_done (by kernel_rfl) ⟨rfl, ?_⟩
      clear HS HO HE hidx hCp CT D0 HOv
      go_wp2
      go_roundw
      case rel => exact ⟨k + 1, by omega, by go_num, HI2.out⟩
      case measure => simp [intOf]; omega
    by_cases h2 : 126 < x
    . clear hesc
      go_wp2
      refine region_calm C 9 (by kernel_rfl) ?_
      have C0 : C { wr with drawn := wr.drawn + 1 } := CT.out _
      have hCp : ∀ p : Prop, (∀ W, C W -> p) ↔ p := fun p => ⟨fun h => h _ C0, fun h _ _ => h⟩
      have hsz2 : W.heap.size <= ({ wr with drawn := wr.drawn + 1 } : World).heap.size := hsz
      generalize ({ wr with drawn := wr.drawn + 1 } : World) = y0 at *
      refine seg 3 [0, 1, 2, 3, 4, 5, 6] rfl (by kernel_rfl) whole_blind C0 (by kernel_rfl) ?_
      change wpQuiet _ _ _ _ (_ :: _ :: _ :: _ :: _ :: _ :: _ :: []) _
      repeat (first
       | go_big_quiet_skip
       | (go_big_quiet_want
          first
          | (refine q_hex (.tmp 39) rfl (x / 16) (by omega) _ rfl (by omega) ?_
             simp only [Act.put, List.setIfInBounds_toArray, List.set_cons_zero, List.set_cons_succ]
             go_big_quiet_on)
          | (refine q_hex (.tmp 42) rfl (x % 16) (by omega) _ rfl (by omega) ?_
             simp only [Act.put, List.setIfInBounds_toArray, List.set_cons_zero, List.set_cons_succ]
             go_big_quiet_on)
          | (go_big_quiet_op
             go_big_quiet_on)))
      refine wpQuiet_nil ?_
      refine lone_do (i := 7) 2 rfl (by kernel_rfl) rfl (by rfl) ?_
      intro K hK
      refine oper_three 92 40 43 rfl (hxd (x / 16)) (hxd (x % 16)) rfl rfl ?_
      refine hK _ _ (CT.out _) ?_
      simp only [Act.put, List.setIfInBounds_toArray, List.set_cons_zero, List.set_cons_succ]
      refine lone_do (i := 8) 1 rfl (by kernel_rfl) rfl (by rfl) ?_
      intro K hK
      refine oper_apb (.tmp 37) (.tmp 44) rfl W.heap.size u3 L rfl (HOv.out.alloc _) _ _ _ [92, hxd (x / 16), hxd (x % 16)] rfl rfl (byt_lit y0 [92, hxd (x / 16), hxd (x % 16)]) (by simp) (by simp; omega) (by simp; omega) ?_
      intro v1 w1 A1
      have HI2 : Hid (Own w1 W.heap.size v1 (39 :: pS ((bts s).take (k + 1))) /\ Below W.heap.size W w1) := HS.out v1 _ w1 (D0.out.alloc D0.out.size _) (by rw [HE.out]; exact A1)
      clear A1
      refine hK _ _ (CT.out _) ?_
      simp only [Act.put, List.setIfInBounds_toArray, List.set_cons_zero, List.set_cons_succ]
      refine lone_calm (i := 9) 0 rfl (by kernel_rfl) rfl rfl (CT.out _) ?_
      go_big_quiet_want
      go_big_quiet_op
      go_big_quiet_on
      refine wpQuiet_nil ?_
      refine anyC_done (by kernel_rfl) ⟨rfl, ?_⟩
      clear HS HO HE hidx hCp CT D0 HOv
      go_wp2
      go_roundw
      case rel => exact ⟨k + 1, by omega, by go_num, HI2.out⟩
      case measure => simp [intOf]; omega
    have h92 : ((x : Int) == 92) = true := by
     have : x = 92 := by omega
     rw [this]; rfl
    clear hesc
    go_wp2
    refine region_calm C 9 (by kernel_rfl) ?_
    have C0 : C { wr with drawn := wr.drawn + 1 } := CT.out _
    have hCp : ∀ p : Prop, (∀ W, C W -> p) ↔ p := fun p => ⟨fun h => h _ C0, fun h _ _ => h⟩
    have hsz2 : W.heap.size <= ({ wr with drawn := wr.drawn + 1 } : World).heap.size := hsz
    generalize ({ wr with drawn := wr.drawn + 1 } : World) = y0 at *
    refine seg 3 [0, 1, 2, 3, 4, 5, 6] rfl (by kernel_rfl) whole_blind C0 (by kernel_rfl) ?_
    change wpQuiet _ _ _ _ (_ :: _ :: _ :: _ :: _ :: _ :: _ :: []) _
    repeat (first
     | go_big_quiet_skip
     | (go_big_quiet_want
        first
        | (refine q_hex (.tmp 39) rfl (x / 16) (by omega) _ rfl (by omega) ?_
           simp only [Act.put, List.setIfInBounds_toArray, List.set_cons_zero, List.set_cons_succ]
           go_big_quiet_on)
        | (refine q_hex (.tmp 42) rfl (x % 16) (by omega) _ rfl (by omega) ?_
           simp only [Act.put, List.setIfInBounds_toArray, List.set_cons_zero, List.set_cons_succ]
           go_big_quiet_on)
        | (go_big_quiet_op
           go_big_quiet_on)))
    refine wpQuiet_nil ?_
    refine lone_do (i := 7) 2 rfl (by kernel_rfl) rfl (by rfl) ?_
    intro K hK
    refine oper_three 92 40 43 rfl (hxd (x / 16)) (hxd (x % 16)) rfl rfl ?_
    refine hK _ _ (CT.out _) ?_
    simp only [Act.put, List.setIfInBounds_toArray, List.set_cons_zero, List.set_cons_succ]
    refine lone_do (i := 8) 1 rfl (by kernel_rfl) rfl (by rfl) ?_
    intro K hK
    refine oper_apb (.tmp 37) (.tmp 44) rfl W.heap.size u3 L rfl (HOv.out.alloc _) _ _ _ [92, hxd (x / 16), hxd (x % 16)] rfl rfl (byt_lit y0 [92, hxd (x / 16), hxd (x % 16)]) (by simp) (by simp; omega) (by simp; omega) ?_
    intro v1 w1 A1
    have HI2 : Hid (Own w1 W.heap.size v1 (39 :: pS ((bts s).take (k + 1))) /\ Below W.heap.size W w1) := HS.out v1 _ w1 (D0.out.alloc D0.out.size _) (by rw [HE.out]; exact A1)
    clear A1
    refine hK _ _ (CT.out _) ?_
    simp only [Act.put, List.setIfInBounds_toArray, List.set_cons_zero, List.set_cons_succ]
    refine lone_calm (i := 9) 0 rfl (by kernel_rfl) rfl rfl (CT.out _) ?_
    go_big_quiet_want
    go_big_quiet_op
    go_big_quiet_on
    refine wpQuiet_nil ?_
    refine anyC_done (by kernel_rfl) ⟨rfl, ?_⟩
    clear HS HO HE hidx hCp CT D0 HOv
    go_wp2
    go_roundw
    case rel => exact ⟨k + 1, by omega, by go_num, HI2.out⟩
    case measure => simp [intOf]; omega
  have HE : Hid (pE x = [x]) := by show _ = _; unfold pE; rw [if_neg h39, if_neg hesc]
  have h1 : ¬ x < 32 := fun h => hesc (.inl h)
  have h2 : ¬ 126 < x := fun h => hesc (.inr (.inl h))
  have h92 : ((x : Int) == 92) = false := by
   have : ¬ x = 92 := fun h => hesc (.inr (.inr h))
   simp; omega
  clear hesc h39
  go_wp2_with (at_builtin; go_must (refine ap_bytes rfl (.tmp 16) (.tmp 18) rfl W.heap.size _ L rfl (HO.out.alloc _) _ _ _ [x] rfl rfl (byt_lit wr [x]) (by simp) (by simp; omega) (by simp; omega) ?_))
  intro v1 w1 A1
  have HI2 : Hid (Own w1 W.heap.size v1 (39 :: pS ((bts s).take (k + 1))) /\ Below W.heap.size W w1) := HS.out v1 _ w1 ((Below.refl _ _).alloc (Nat.le_refl _) _) (by rw [HE.out]; exact A1)
  clear A1 HS HO HE hidx
  go_wp2
  go_roundw
  case rel => exact ⟨k + 1, by omega, by go_num, HI2.out⟩
  case measure => simp [intOf]; omega
end Go.Proofs.YtpfiejmhnkcjbaaGreatDoor
