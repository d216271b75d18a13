/-
   · 
-/
import Derived.Test.YtobfdcdobhhagaaGreatDoorAG33x
import Derived.Test.YtobfdcdobhhagaaGreatDoorAG26x
import Derived.Test.YtobfdcdobhhagaaGreatDoorARc1
namespace Go.Proofs.YtobfdcdobhhagaaGreatDoor
set_option maxHeartbeats 4000000
set_option maxRecDepth 8000
open Go.RowKit Math
set_option linter.unusedVariables false
set_option linter.unusedSimpArgs false
structure Ry (r B : Nat) (W wr : World) (s : ByteArray) (bad : Bool) (v : Value) (acc : List Nat) : Prop where
 kq : Kq r W wr s bad
 own : Own wr B v acc
 sz : B <= wr.heap.size
theorem Ry.read {r B : Nat} {W wr w' : World} {s s' : ByteArray} {bad bad' : Bool} {v : Value} {acc : List Nat} (h : Ry r B W wr s bad v acc) (hr : r < B) (k : Kq r wr w' s' bad') : Ry r B W w' s' bad' v acc :=
 ⟨h.kq.trans k, World.ownsRow.kept h.own k.gr (.inr fun c => by have := (World.ownsRow.lt h.own r c).1; omega), Nat.le_trans h.sz k.gr.size⟩
theorem Ry.below {r B : Nat} {W wr w' : World} {s : ByteArray} {bad : Bool} {v : Value} {acc : List Nat} (h : Ry r B W wr s bad v acc) (k : Below wr.heap.size wr w') : Ry r B W w' s bad v acc :=
 ⟨h.kq.then k, h.own.below k, Nat.le_trans h.sz k.size⟩
theorem Ry.put {r B : Nat} {W wr w' : World} {s : ByteArray} {bad : Bool} {v v' : Value} {acc acc' : List Nat} (h : Ry r B W wr s bad v acc) (hr : r < B) (hW : W.heap.size <= B) (A : Ap B wr w' v v' acc') : Ry r B W w' s bad v' acc' := by
 have hv : ∀ x, x < B -> some x ≠ v.ownBlock := fun x hx e => by have := (World.ownsRow.lt h.own x e.symm).1; omega
 refine ⟨⟨A.blk h.kq.blk (fun e => hv r hr e.symm), ⟨A.gr.os.trans h.kq.gr.os, A.gr.tape.trans h.kq.gr.tape, A.gr.output.trans h.kq.gr.output, Nat.le_trans h.kq.gr.size A.gr.size, fun x hx hne => ?_⟩⟩, A.own, Nat.le_trans h.sz A.gr.size⟩
 have hz := h.kq.gr.size
 rw [A.gr.block x (by omega) (hv x (by omega))]
 exact h.kq.gr.block x hx hne
structure Tq (r : Nat) (W w' : World) (s s' : ByteArray) (bad bad' : Bool) (x : ByteArray) : Prop where
 kq : Kq r W w' s' bad'
 rt : Rt pQ (fun _ m => ∀ t, m ≠ 39 :: t) (bts s) bad (bts s') bad' x
 pr : bad' = false -> x.size + 1 + s'.size <= s.size
 xs : x.size <= 600000
 le : s'.size <= s.size
def slq (r : Nat) (w : World) : Nat := match w.cell? ⟨r, 0, none⟩, w.cell? ⟨r, 1, none⟩ with
 | some (.string s), some (.bool b) => if b then 0 else s.size + 1
 | _, _ => 0
theorem slq_of {r : Nat} {w : World} {s : ByteArray} {b : Bool} (h : Blk w r 79 [.string s, .bool b]) : slq r w = if b then 0 else s.size + 1 := by
 unfold slq
 rw [h.cell 0, h.cell 1]
 rfl
theorem rtext9 (r : Nat) (s : ByteArray) (bad : Bool) (hs : s.size <= 600000) (W : World) (hb : Blk W r 79 [.string s, .bool bad]) :
 Calls Tryz.prog 74 #[.pointer (some ⟨r, 0, none⟩)] W fun e w' => ∃ (s' : ByteArray) (bad' : Bool) (x : ByteArray), e = .returned (.string x) /\ Hid (Tq r W w' s s' bad bad' x) := by
 have K := rsign9 r s ⟨#[39]⟩ bad (by omega) (by show (1 : Nat) <= 1000; omega) W hb
 have hrW := hb.lt
 clear hb
 go_enter Tryz.func74, Tryz.ntmps74
 go_wp2_with fail
 refine K.mono ?_
 rintro e w1 ⟨s1, b1, rfl, H1⟩
 clear K
 have hW1 : W.heap.size <= w1.heap.size := H1.out.kq.gr.size
 have HI0 : Hid (Ry r w1.heap.size W w1 s1 b1 (.slice none 0 0) [] /\ Tx (bts s) bad (bts s1) b1 []) := by
  refine ⟨⟨H1.out.kq, World.ownsRow_nil _ _ _ _, Nat.le_refl _⟩, Tx.start H1.out.rm fun h => ?_⟩
  have := congrArg List.length (H1.out.eq h)
  rw [List.length_append, bts_len, bts_len] at this
  have h1 : (⟨#[39]⟩ : ByteArray).size = 1 := rfl
  rw [bts_len] at this
  rw [bts_len, bts_len]
  omega
 have hs1 : s1.size <= s.size := H1.out.le
 clear H1
 go_wp2
 go_loopw [3, 4] (fun v _ wr => ∃ (sk : ByteArray) (bk : Bool) (acc : List Nat), sk.size <= s.size /\ acc.length <= 600000 /\ Hid (Ry r w1.heap.size W wr sk bk v acc /\ Tx (bts s) bad (bts sk) bk acc)) (fun _ _ wr => slq r wr)
 case atStart => exact ⟨s1, b1, [], hs1, by simp, HI0.out⟩
 case round =>
  clear HI0
  obtain ⟨sk, bk, acc, hsk, hac, HJ⟩ := hrel
  have HR : Hid (Ry r w1.heap.size W wr sk bk u3 acc) := HJ.out.1
  have HT : Hid (Tx (bts s) bad (bts sk) bk acc) := HJ.out.2
  have hrB : r < w1.heap.size := by omega
  have c0 : wr.cell? ⟨r, 0, none⟩ = some (.string sk) := HR.out.kq.blk.cell 0
  have c1 : wr.cell? ⟨r, 1, none⟩ = some (.bool bk) := HR.out.kq.blk.cell 1
  have HM : Hid (slq r wr = if bk then 0 else sk.size + 1) := slq_of HR.out.kq.blk
  have hwr : w1.heap.size <= wr.heap.size := HR.out.sz
  clear HJ
  cases bk with
  | true =>
    have HF : Hid (Tq r W wr s sk bad true em) := ⟨HR.out.kq, HT.out.isBad em, fun h => (by cases h), by decide, hsk⟩
    clear HR HT HM
    go_wp2
    go_ret
    exact ⟨sk, true, em, rfl, HF.out⟩
  | false =>
    have hac2 : acc.length + 1 + sk.size <= s.size := by
     have := HT.out.pr rfl
     rw [bts_len, bts_len] at this
     omega
    by_cases h0 : sk.size = 0
    . have he : sk.toList.isEmpty = true := (empty9 sk).2 h0
      have HE : Hid (bts sk = []) := List.eq_nil_of_length_eq_zero (by rw [bts_len]; exact h0)
      clear h0
      go_wp2_with (refine st_one rfl 4 (.tmp 19) (.const (.bool true)) rfl r 1 79 [.string sk, .bool false] (.bool true) rfl rfl rfl rfl (by simp) HR.out.kq.blk sz4 ?_)
      intro w2 b2 g2
      have HF : Hid (Tq r W w2 s sk bad true em) := by
       refine ⟨HR.out.kq.trans ⟨b2, g2⟩, ?_, fun h => (by cases h), by decide, hsk⟩
       have h := HT.out
       rw [HE.out] at h ⊢
       exact h.none em
      clear b2 g2 HR HT HM HE
      go_wp2
      go_ret
      exact ⟨sk, true, em, rfl, HF.out⟩
    have he : sk.toList.isEmpty = false := by
     cases hh : sk.toList.isEmpty with
     | true => exact absurd ((empty9 sk).1 hh) h0
     | false => rfl
    have hp : 0 < sk.size := by omega
    obtain ⟨c, hl, hc256⟩ : ∃ c, bts sk = c :: bts (sk.extract 1 sk.size) /\ c < 256 := ⟨_, bcons9 sk hp, (sk[0]'hp).toNat_lt⟩
    have hi := idx0 sk c _ hl
    have HL : Hid (bts sk = c :: bts (sk.extract 1 sk.size)) := hl
    have hz3 : (sk.extract 1 sk.size).size + 1 = sk.size := by rw [ByteArray.size_extract]; omega
    have h1i : (1 : Int) <= (sk.size : Int) := by omega
    clear hl h0
    obtain ⟨s3, hs3⟩ : ∃ s3, sk.extract 1 sk.size = s3 := ⟨_, rfl⟩
    rw [hs3] at HL hz3
    have Hs3 : Hid (sk.extract 1 sk.size = s3) := hs3
    clear hs3
    have HZ : Hid (s3.size + 1 = sk.size) := hz3
    clear hz3
    go_wp2_with (refine st_one rfl 9 (.tmp 32) (.tmp 30) rfl r 0 79 [.string sk, .bool false] (.string (sk.extract 1 sk.size)) rfl rfl rfl rfl (by simp) HR.out.kq.blk sz9 ?_)
    intro w2 b2 g2
    rw [Hs3.out] at b2
    have HR2 : Hid (Ry r w1.heap.size W w2 s3 false u3 acc) := HR.out.read hrB ⟨b2, g2⟩
    have hw2 : w1.heap.size <= w2.heap.size := HR2.out.sz
    clear b2 g2 HR c0 c1 hi
    have HO : Hid (Own w2 w1.heap.size u3 acc) := HR2.out.own
    have hac3 : acc.length <= 600000 := hac
    by_cases h39 : c = 39
    . have hc39 : ((c : Int) == 39) = true := by rw [h39]; rfl
      have HL9 : Hid (bts sk = 39 :: bts s3) := by show _ = _; rw [HL.out, h39]
      obtain ⟨t, ht, KN⟩ := rnext9 r s3 false 39 w2 HR2.out.kq.blk
      have HTt : Hid (t = true ↔ false = false /\ ∃ m, bts s3 = 39 :: m) := ht
      have KN' : Calls Tryz.prog 77 #[.pointer (some ⟨r, 0, none⟩), .int .u8 39] w2 fun e w' => e = .returned (.bool t) /\ w' = w2 := KN
      clear ht h39 HL KN
      go_wp2_with fail
      refine KN'.mono ?_
      rintro e w4 ⟨rfl, rfl⟩
      clear KN'
      cases t with
      | true =>
        obtain ⟨m, hm⟩ : ∃ m, bts s3 = 39 :: m := (HTt.out.1 rfl).2
        have hp3 : 0 < s3.size := by rw [<- bts_len, hm]; simp
        have HL4 : Hid (bts s3 = 39 :: bts (s3.extract 1 s3.size)) := by
         have h := bcons9 s3 hp3
         rw [hm] at h
         injection h with h1 h2
         show _ = _
         rw [hm, h2]
        have HZ4 : Hid ((s3.extract 1 s3.size).size + 1 = s3.size) := by show _ = _; rw [ByteArray.size_extract]; omega
        have h3i : (1 : Int) <= (s3.size : Int) := by omega
        clear hm HTt
        go_wp2_with (at_builtin; go_must (refine ap_bytes rfl (.tmp 44) (.tmp 45) rfl w1.heap.size _ acc rfl (HO.out.alloc _) _ _ _ [39] rfl rfl (byt_lit w4 [39]) (by simp) (by simp; omega) (by simp; omega) ?_))
        intro v5 w5 A5
        have HR5 : Hid (Ry r w1.heap.size W w5 s3 false v5 (acc ++ [39])) := (HR2.out.below ((Below.refl _ _).alloc (Nat.le_refl _) _)).put hrB hW1 A5
        have c0 : w5.cell? ⟨r, 0, none⟩ = some (.string s3) := HR5.out.kq.blk.cell 0
        clear A5 HO HR2
        go_wp2_with (refine st_one rfl 9 (.tmp 54) (.tmp 52) rfl r 0 79 [.string s3, .bool false] (.string (s3.extract 1 s3.size)) rfl rfl rfl rfl (by simp) HR5.out.kq.blk sz9 ?_)
        intro w6 b6 g6
        have HR6 : Hid (Ry r w1.heap.size W w6 (s3.extract 1 s3.size) false v5 (acc ++ [39])) := HR5.out.read hrB ⟨b6, g6⟩
        have HT6 : Hid (Tx (bts s) bad (bts (s3.extract 1 s3.size)) false (acc ++ [39])) := HT.out.quote (by rw [HL9.out, HL4.out])
        have HM6 : Hid (slq r w6 < slq r wr) := by
         show _ < _
         rw [HM.out, slq_of HR6.out.kq.blk]
         have := HZ.out
         have := HZ4.out
         simp
         omega
        have HS6 : Hid ((s3.extract 1 s3.size).size <= s.size /\ (acc ++ [39]).length <= 600000) := by
         have := HZ.out
         have := HZ4.out
         refine ⟨by omega, by simp; omega⟩
        clear b6 g6 HR5 c0 HT HM HZ4 HL4 HL9 HZ
        go_wp2
        go_roundw
        case rel => exact ⟨_, false, _, HS6.out.1, HS6.out.2, HR6.out, HT6.out⟩
        case measure => exact HM6.out
      | false =>
        have HNo : Hid (∀ t, bts s3 ≠ 39 :: t) := fun t e => by
         have := HTt.out.2 ⟨(by first | trivial | rfl), t, e⟩
         cases this
        obtain ⟨a, cc, hu, hbt, hn, _⟩ := HO.out.byt
        have hcv := conv_byt9 hbt HT.out.oc hn
        rw [<- hu] at hcv
        have HF : Hid (Tq r W w4 s s3 bad false (ofB acc)) := by
         have := HZ.out
         refine ⟨HR2.out.kq, HT.out.done HL9.out HNo.out, fun _ => ?_, ?_, by omega⟩
         . rw [ofB_size]; omega
         . rw [ofB_size]; omega
        clear hbt hn HTt HO HNo HR2 HT HM HL9 HZ hu
        generalize ofB acc = X at *
        go_wp2
        go_ret
        exact ⟨s3, false, X, rfl, HF.out⟩
    have hc39 : ((c : Int) == 39) = false := by simp; omega
    by_cases h92 : c = 92
    . have hc92 : ((c : Int) == 92) = true := by rw [h92]; rfl
      have HL9 : Hid (bts sk = 92 :: bts s3) := by show _ = _; rw [HL.out, h92]
      have KP := rpair9 r s3 false (by have := HZ.out; omega) w2 HR2.out.kq.blk
      clear h39 h92 HL
      go_wp2_with fail
      refine KP.mono ?_
      rintro e w4 ⟨s4, b4, d, rfl, H4⟩
      have HR4 : Hid (Ry r w1.heap.size W w4 s4 b4 u3 acc) := HR2.out.read hrB H4.out.kq
      have hw4 : w1.heap.size <= w4.heap.size := HR4.out.sz
      clear KP HO
      go_wp2_with (at_builtin; go_must (refine ap_bytes rfl (.tmp 63) (.tmp 66) rfl w1.heap.size _ acc rfl (HR4.out.own.alloc _) _ _ _ [d] rfl rfl (byt_lit w4 [d]) (by simp) (by simp; omega) (by simp; omega) ?_))
      intro v5 w5 A5
      have HR5 : Hid (Ry r w1.heap.size W w5 s4 b4 v5 (acc ++ [d])) := (HR4.out.below ((Below.refl _ _).alloc (Nat.le_refl _) _)).put hrB hW1 A5
      have HT5 : Hid (Tx (bts s) bad (bts s4) b4 (acc ++ [d])) := HT.out.esc HL9.out H4.out.rp H4.out.lt fun h => by
       have := H4.out.pr h
       rw [bts_len, bts_len]
       omega
      have HM5 : Hid (slq r w5 < slq r wr) := by
       show _ < _
       rw [HM.out, slq_of HR5.out.kq.blk]
       have := HZ.out
       have := H4.out.le
       simp
       split <;> omega
      have HS5 : Hid (s4.size <= s.size /\ (acc ++ [d]).length <= 600000) := by
       have := HZ.out
       have := H4.out.le
       refine ⟨by omega, by simp; omega⟩
      clear A5 HR4 HT HM H4 HR2 HZ HL9
      go_wp2
      go_roundw
      case rel => exact ⟨_, b4, _, HS5.out.1, HS5.out.2, HR5.out, HT5.out⟩
      case measure => exact HM5.out
    have hc92 : ((c : Int) == 92) = false := by simp; omega
    have HT5 : Hid (Tx (bts s) bad (bts s3) false (acc ++ [c])) := HT.out.plain HL.out h39 h92 hc256
    clear h39 h92
    go_wp2_with (at_builtin; go_must (refine ap_bytes rfl (.tmp 33) (.tmp 35) rfl w1.heap.size _ acc rfl (HO.out.alloc _) _ _ _ [c] rfl rfl (byt_lit w2 [c]) (by simp) (by simp; omega) (by simp; omega) ?_))
    intro v5 w5 A5
    have HR5 : Hid (Ry r w1.heap.size W w5 s3 false v5 (acc ++ [c])) := (HR2.out.below ((Below.refl _ _).alloc (Nat.le_refl _) _)).put hrB hW1 A5
    have HM5 : Hid (slq r w5 < slq r wr) := by
     show _ < _
     rw [HM.out, slq_of HR5.out.kq.blk]
     have := HZ.out
     simp
     omega
    have HS5 : Hid (s3.size <= s.size /\ (acc ++ [c]).length <= 600000) := by
     have := HZ.out
     refine ⟨by omega, by simp; omega⟩
    clear A5 HT HM HR2 HZ HL HO
    go_wp2
    go_roundw
    case rel => exact ⟨_, false, _, HS5.out.1, HS5.out.2, HR5.out, HT5.out⟩
    case measure => exact HM5.out
end Go.Proofs.YtobfdcdobhhagaaGreatDoor
namespace Go.Proofs.YtobfdcdobhhagaaGreatDoor
set_option maxHeartbeats 4000000
set_option maxRecDepth 8000
open Go.RowKit Math
set_option linter.unusedVariables false
set_option linter.unusedSimpArgs false
theorem kq_kept {r g : Nat} {W w w' : World} {s : ByteArray} {b : Bool} (h : Kq r W w s b) (k : w.grownBy w' (some g)) (hg : W.heap.size <= g) (hr : r < W.heap.size) : Kq r W w' s b := kr_grown h k (fun x c => by injection c with c; omega)
structure Vq9 (dp : Int) (r : Nat) (W w' : World) (s s' : ByteArray) (bad bad' : Bool) (p : Vt) (na : Option Addr) (nc : Nat) (ka : Option Addr) (kc : Nat) : Prop where
 kq : Kq r W w' s' bad'
 vl : ∃ Lp, VlL w' p na nc ka kc Lp /\ ∀ x ∈ Lp, W.heap.size <= x /\ x < w'.heap.size
 wf : WfV p
 vx : Vx dp (bts s) bad (bts s') bad' p
theorem rv_no (dp : Int) (r : Nat) (s : ByteArray) (bad : Bool) (W : World) (hs : s.size <= 100000) (hb : Blk W r 79 [.string s, .bool bad]) (hn : bad = true ∨ s.size = 0 ∨ 16 < dp) :
 Calls Tryz.prog 36 #[.pointer (some ⟨r, 0, none⟩), .int .i64 dp] W fun e w' => ∃ (p : Vt) (na : Option Addr) (nc : Nat) (ka : Option Addr) (kc : Nat) (s' : ByteArray) (bad' : Bool), e = .returned (.agg #[.int .i64 p.1.k, .int .i64 p.1.n, .int .i64 p.1.s, .string p.1.t, .slice na p.1.ns.length nc, .slice ka p.2.list.length kc]) /\ Hid (Vq9 dp r W w' s s' bad bad' p na nc ka kc) := by
 have HV0 : Hid (Vx dp (bts s) bad (bts s) true (lf 0 0 0 em)) := by
  rcases hn with h | h | h
  . exact vx_bad ⟨[], rfl⟩ fun h0 => by rw [h] at h0; cases h0
  . rw [show bts s = [] from List.eq_nil_of_length_eq_zero (by rw [bts_len]; exact h)]
    exact vx_end ⟨[], rfl⟩
  . exact vx_deep h ⟨[], rfl⟩
 have hrW : r < W.heap.size := hb.lt
 have HB : Hid (Blk W r 79 [.string s, .bool bad]) := hb
 clear hb
 go_enter Tryz.func36, Tryz.ntmps36
 go_wp2_with (refine al_zero rfl 38 rfl zer z25 ?_)
 intro g4 w1 hg4 b1 gr1
 have HK1 : Hid (Kq r W w1 s bad) := ⟨HB.out.kept gr1 (by simp), ⟨gr1.os, gr1.tape, gr1.output, gr1.size, fun x hx hne => gr1.block x hx (by simp)⟩⟩
 have HZ1 : Hid (Blk w1 g4 38 zer) := b1
 have hg4l : g4 < w1.heap.size := b1.lt
 have hW1 : W.heap.size <= w1.heap.size := gr1.size
 clear b1 gr1 HB
 have c0 : w1.cell? ⟨r, 0, none⟩ = some (.string s) := HK1.out.blk.cell 0
 have c1 : w1.cell? ⟨r, 1, none⟩ = some (.bool bad) := HK1.out.blk.cell 1
 cases bad with
 | true =>
   go_wp2_with (refine st_one rfl 4 (.tmp 30) (.const (.bool true)) rfl r 1 79 [.string s, .bool true] (.bool true) rfl rfl rfl rfl (by simp) HK1.out.blk sz4 ?_)
   intro w2 b2 gr2
   have HK : Hid (Kq r W w2 s true) := HK1.out.trans ⟨b2, gr2⟩
   have HZ : Hid (Blk w2 g4 38 zer) := HZ1.out.kept gr2 (by intro e; injection e with e; omega)
   have HVR : Hid (Vx dp (bts s) true (bts s) true (lf 0 0 0 em)) := HV0.out
   have HWF : Hid (WfV (⟨0, 0, 0, ⟨#[]⟩, []⟩, .nil)) := wf_leaf9 0 0 0 ⟨#[]⟩ (by omega) (by omega) (by omega) (by decide)
   clear b2 gr2 HK1 HZ1 c0 c1
   go_wp2_with (refine st_all rfl 38 (.tmp 4) (.tmp 31) rfl g4 38 zer [.int .i64 0, .int .i64 0, .int .i64 0, .string ⟨#[]⟩, .slice none 0 0, .slice none 0 0] rfl rfl HZ.out rfl s25 (D6.ones rfl) ?_)
   intro w9 b9 g9
   have HB9 : Hid (Blk w9 g4 38 [.int .i64 0, .int .i64 0, .int .i64 0, .string ⟨#[]⟩, .slice none 0 0, .slice none 0 0]) := b9
   have HQ : Hid (Vq9 dp r W w9 s s true true (⟨0, 0, 0, ⟨#[]⟩, []⟩, .nil) none 0 none 0) := ⟨kq_kept HK.out g9 hg4 hrW, ⟨[], vl_leaf9 _ _ _ _ _, fun x hx => by cases hx⟩, HWF.out, HVR.out⟩
   clear b9 g9 HZ HK HWF HVR HV0
   go_wp2
   exact bodyPost_ret (D6.res_row rfl _ g4 38 _ _ rfl HB9.out Tryz.underlying38 rfl s25) rfl ⟨(⟨0, 0, 0, ⟨#[]⟩, []⟩, .nil), none, 0, none, 0, s, true, rfl, HQ.out⟩
 | false =>
   by_cases h0 : s.size = 0
   . have he : s.toList.isEmpty = true := (empty9 s).2 h0
     clear hn
     go_wp2_with (refine st_one rfl 4 (.tmp 30) (.const (.bool true)) rfl r 1 79 [.string s, .bool false] (.bool true) rfl rfl rfl rfl (by simp) HK1.out.blk sz4 ?_)
     intro w2 b2 gr2
     have HK : Hid (Kq r W w2 s true) := HK1.out.trans ⟨b2, gr2⟩
     have HZ : Hid (Blk w2 g4 38 zer) := HZ1.out.kept gr2 (by intro e; injection e with e; omega)
     have HVR : Hid (Vx dp (bts s) false (bts s) true (lf 0 0 0 em)) := HV0.out
     have HWF : Hid (WfV (⟨0, 0, 0, ⟨#[]⟩, []⟩, .nil)) := wf_leaf9 0 0 0 ⟨#[]⟩ (by omega) (by omega) (by omega) (by decide)
     clear b2 gr2 HK1 HZ1 c0 c1
     go_wp2_with (refine st_all rfl 38 (.tmp 4) (.tmp 31) rfl g4 38 zer [.int .i64 0, .int .i64 0, .int .i64 0, .string ⟨#[]⟩, .slice none 0 0, .slice none 0 0] rfl rfl HZ.out rfl s25 (D6.ones rfl) ?_)
     intro w9 b9 g9
     have HB9 : Hid (Blk w9 g4 38 [.int .i64 0, .int .i64 0, .int .i64 0, .string ⟨#[]⟩, .slice none 0 0, .slice none 0 0]) := b9
     have HQ : Hid (Vq9 dp r W w9 s s false true (⟨0, 0, 0, ⟨#[]⟩, []⟩, .nil) none 0 none 0) := ⟨kq_kept HK.out g9 hg4 hrW, ⟨[], vl_leaf9 _ _ _ _ _, fun x hx => by cases hx⟩, HWF.out, HVR.out⟩
     clear b9 g9 HZ HK HWF HVR HV0
     go_wp2
     exact bodyPost_ret (D6.res_row rfl _ g4 38 _ _ rfl HB9.out Tryz.underlying38 rfl s25) rfl ⟨(⟨0, 0, 0, ⟨#[]⟩, []⟩, .nil), none, 0, none, 0, s, true, rfl, HQ.out⟩
   have he : s.toList.isEmpty = false := by
    cases hh : s.toList.isEmpty with
    | true => exact absurd ((empty9 s).1 hh) h0
    | false => rfl
   have hd : decide ((16 : Int) < dp) = true := decide_eq_true (by
    rcases hn with h | h | h
    . cases h
    . exact absurd h h0
    . exact h)
   clear hn h0
   go_wp2_with (refine st_one rfl 4 (.tmp 30) (.const (.bool true)) rfl r 1 79 [.string s, .bool false] (.bool true) rfl rfl rfl rfl (by simp) HK1.out.blk sz4 ?_)
   intro w2 b2 gr2
   have HK : Hid (Kq r W w2 s true) := HK1.out.trans ⟨b2, gr2⟩
   have HZ : Hid (Blk w2 g4 38 zer) := HZ1.out.kept gr2 (by intro e; injection e with e; omega)
   have HVR : Hid (Vx dp (bts s) false (bts s) true (lf 0 0 0 em)) := HV0.out
   have HWF : Hid (WfV (⟨0, 0, 0, ⟨#[]⟩, []⟩, .nil)) := wf_leaf9 0 0 0 ⟨#[]⟩ (by omega) (by omega) (by omega) (by decide)
   clear b2 gr2 HK1 HZ1 c0 c1
   go_wp2_with (refine st_all rfl 38 (.tmp 4) (.tmp 31) rfl g4 38 zer [.int .i64 0, .int .i64 0, .int .i64 0, .string ⟨#[]⟩, .slice none 0 0, .slice none 0 0] rfl rfl HZ.out rfl s25 (D6.ones rfl) ?_)
   intro w9 b9 g9
   have HB9 : Hid (Blk w9 g4 38 [.int .i64 0, .int .i64 0, .int .i64 0, .string ⟨#[]⟩, .slice none 0 0, .slice none 0 0]) := b9
   have HQ : Hid (Vq9 dp r W w9 s s false true (⟨0, 0, 0, ⟨#[]⟩, []⟩, .nil) none 0 none 0) := ⟨kq_kept HK.out g9 hg4 hrW, ⟨[], vl_leaf9 _ _ _ _ _, fun x hx => by cases hx⟩, HWF.out, HVR.out⟩
   clear b9 g9 HZ HK HWF HVR HV0
   go_wp2
   exact bodyPost_ret (D6.res_row rfl _ g4 38 _ _ rfl HB9.out Tryz.underlying38 rfl s25) rfl ⟨(⟨0, 0, 0, ⟨#[]⟩, []⟩, .nil), none, 0, none, 0, s, true, rfl, HQ.out⟩
theorem rv_null (dp : Int) (r : Nat) (s : ByteArray) (W : World) (hs : s.size <= 100000) (hb : Blk W r 79 [.string s, .bool false]) (hdp : dp <= 16) (T : List Nat) (hT : bts s = 110 :: T) :
 Calls Tryz.prog 36 #[.pointer (some ⟨r, 0, none⟩), .int .i64 dp] W fun e w' => ∃ (p : Vt) (na : Option Addr) (nc : Nat) (ka : Option Addr) (kc : Nat) (s' : ByteArray) (bad' : Bool), e = .returned (.agg #[.int .i64 p.1.k, .int .i64 p.1.n, .int .i64 p.1.s, .string p.1.t, .slice na p.1.ns.length nc, .slice ka p.2.list.length kc]) /\ Hid (Vq9 dp r W w' s s' false bad' p na nc ka kc) := by
 have he : s.toList.isEmpty = false := by
  cases hh : s.toList.isEmpty with
  | true =>
    have := (empty9 s).1 hh
    rw [<- bts_len, hT] at this
    simp at this
  | false => rfl
 have hd : decide ((16 : Int) < dp) = false := decide_eq_false (by omega)
 have hi := idx0 s 110 T hT
 have HT : Hid (bts s = 110 :: T) := hT
 clear hT
 have hrW : r < W.heap.size := hb.lt
 have HB : Hid (Blk W r 79 [.string s, .bool false]) := hb
 clear hb
 go_enter Tryz.func36, Tryz.ntmps36
 go_wp2_with (refine al_zero rfl 38 rfl zer z25 ?_)
 intro g4 w1 hg4 b1 gr1
 have HK1 : Hid (Kq r W w1 s false) := ⟨HB.out.kept gr1 (by simp), ⟨gr1.os, gr1.tape, gr1.output, gr1.size, fun x hx hne => gr1.block x hx (by simp)⟩⟩
 have HZ1 : Hid (Blk w1 g4 38 zer) := b1
 have hg4l : g4 < w1.heap.size := b1.lt
 have hW1 : W.heap.size <= w1.heap.size := gr1.size
 clear b1 gr1 HB
 have c0 : w1.cell? ⟨r, 0, none⟩ = some (.string s) := HK1.out.blk.cell 0
 have c1 : w1.cell? ⟨r, 1, none⟩ = some (.bool false) := HK1.out.blk.cell 1
 have K := rsign9 r s ⟨#[110, 117, 108, 108]⟩ false (by omega) (by show (4 : Nat) <= 1000; omega) w1 HK1.out.blk
 go_wp2_with fail
 refine K.mono ?_
 rintro e w2 ⟨s2, b2, rfl, H2⟩
 have HK : Hid (Kq r W w2 s2 b2) := HK1.out.trans H2.out.kq
 have HZ : Hid (Blk w2 g4 38 zer) := HZ1.out.kept H2.out.kq.gr (by intro e; injection e with e; omega)
 have HVR : Hid (Vx dp (bts s) false (bts s2) b2 (lf 1 0 0 em)) := by
  have h1 := H2.out.rm
  have h2 := H2.out.eq
  rw [HT.out] at h1 h2 ⊢
  refine vx_null h1 fun hb => ?_
  rw [h2 hb, List.length_append]
  have : 0 < (bts ⟨#[110, 117, 108, 108]⟩).length := by decide
  omega
 have HWF : Hid (WfV (⟨1, 0, 0, ⟨#[]⟩, []⟩, .nil)) := wf_leaf9 1 0 0 ⟨#[]⟩ (by omega) (by omega) (by omega) (by decide)
 clear K H2 HK1 HZ1 c0 c1 HT hi
 go_wp2_with (refine st_all rfl 38 (.tmp 4) (.tmp 42) rfl g4 38 zer [.int .i64 1, .int .i64 0, .int .i64 0, .string ⟨#[]⟩, .slice none 0 0, .slice none 0 0] rfl rfl HZ.out rfl s25 (D6.ones rfl) ?_)
 intro w9 b9 g9
 have HB9 : Hid (Blk w9 g4 38 [.int .i64 1, .int .i64 0, .int .i64 0, .string ⟨#[]⟩, .slice none 0 0, .slice none 0 0]) := b9
 have HQ : Hid (Vq9 dp r W w9 s s2 false b2 (⟨1, 0, 0, ⟨#[]⟩, []⟩, .nil) none 0 none 0) := ⟨kq_kept HK.out g9 hg4 hrW, ⟨[], vl_leaf9 _ _ _ _ _, fun x hx => by cases hx⟩, HWF.out, HVR.out⟩
 clear b9 g9 HZ HK HWF HVR
 go_wp2
 exact bodyPost_ret (D6.res_row rfl _ g4 38 _ _ rfl HB9.out Tryz.underlying38 rfl s25) rfl ⟨(⟨1, 0, 0, ⟨#[]⟩, []⟩, .nil), none, 0, none, 0, s2, b2, rfl, HQ.out⟩
theorem rv_true (dp : Int) (r : Nat) (s : ByteArray) (W : World) (hs : s.size <= 100000) (hb : Blk W r 79 [.string s, .bool false]) (hdp : dp <= 16) (T : List Nat) (hT : bts s = 116 :: T) :
 Calls Tryz.prog 36 #[.pointer (some ⟨r, 0, none⟩), .int .i64 dp] W fun e w' => ∃ (p : Vt) (na : Option Addr) (nc : Nat) (ka : Option Addr) (kc : Nat) (s' : ByteArray) (bad' : Bool), e = .returned (.agg #[.int .i64 p.1.k, .int .i64 p.1.n, .int .i64 p.1.s, .string p.1.t, .slice na p.1.ns.length nc, .slice ka p.2.list.length kc]) /\ Hid (Vq9 dp r W w' s s' false bad' p na nc ka kc) := by
 have he : s.toList.isEmpty = false := by
  cases hh : s.toList.isEmpty with
  | true =>
    have := (empty9 s).1 hh
    rw [<- bts_len, hT] at this
    simp at this
  | false => rfl
 have hd : decide ((16 : Int) < dp) = false := decide_eq_false (by omega)
 have hi := idx0 s 116 T hT
 have HT : Hid (bts s = 116 :: T) := hT
 clear hT
 have hrW : r < W.heap.size := hb.lt
 have HB : Hid (Blk W r 79 [.string s, .bool false]) := hb
 clear hb
 go_enter Tryz.func36, Tryz.ntmps36
 go_wp2_with (refine al_zero rfl 38 rfl zer z25 ?_)
 intro g4 w1 hg4 b1 gr1
 have HK1 : Hid (Kq r W w1 s false) := ⟨HB.out.kept gr1 (by simp), ⟨gr1.os, gr1.tape, gr1.output, gr1.size, fun x hx hne => gr1.block x hx (by simp)⟩⟩
 have HZ1 : Hid (Blk w1 g4 38 zer) := b1
 have hg4l : g4 < w1.heap.size := b1.lt
 have hW1 : W.heap.size <= w1.heap.size := gr1.size
 clear b1 gr1 HB
 have c0 : w1.cell? ⟨r, 0, none⟩ = some (.string s) := HK1.out.blk.cell 0
 have c1 : w1.cell? ⟨r, 1, none⟩ = some (.bool false) := HK1.out.blk.cell 1
 have K := rsign9 r s ⟨#[116, 114, 117, 101]⟩ false (by omega) (by show (4 : Nat) <= 1000; omega) w1 HK1.out.blk
 go_wp2_with fail
 refine K.mono ?_
 rintro e w2 ⟨s2, b2, rfl, H2⟩
 have HK : Hid (Kq r W w2 s2 b2) := HK1.out.trans H2.out.kq
 have HZ : Hid (Blk w2 g4 38 zer) := HZ1.out.kept H2.out.kq.gr (by intro e; injection e with e; omega)
 have HVR : Hid (Vx dp (bts s) false (bts s2) b2 (lf 2 1 0 em)) := by
  have h1 := H2.out.rm
  have h2 := H2.out.eq
  rw [HT.out] at h1 h2 ⊢
  refine vx_true h1 fun hb => ?_
  rw [h2 hb, List.length_append]
  have : 0 < (bts ⟨#[116, 114, 117, 101]⟩).length := by decide
  omega
 have HWF : Hid (WfV (⟨2, 1, 0, ⟨#[]⟩, []⟩, .nil)) := wf_leaf9 2 1 0 ⟨#[]⟩ (by omega) (by omega) (by omega) (by decide)
 clear K H2 HK1 HZ1 c0 c1 HT hi
 go_wp2_with (refine st_all rfl 38 (.tmp 4) (.tmp 48) rfl g4 38 zer [.int .i64 2, .int .i64 1, .int .i64 0, .string ⟨#[]⟩, .slice none 0 0, .slice none 0 0] rfl rfl HZ.out rfl s25 (D6.ones rfl) ?_)
 intro w9 b9 g9
 have HB9 : Hid (Blk w9 g4 38 [.int .i64 2, .int .i64 1, .int .i64 0, .string ⟨#[]⟩, .slice none 0 0, .slice none 0 0]) := b9
 have HQ : Hid (Vq9 dp r W w9 s s2 false b2 (⟨2, 1, 0, ⟨#[]⟩, []⟩, .nil) none 0 none 0) := ⟨kq_kept HK.out g9 hg4 hrW, ⟨[], vl_leaf9 _ _ _ _ _, fun x hx => by cases hx⟩, HWF.out, HVR.out⟩
 clear b9 g9 HZ HK HWF HVR
 go_wp2
 exact bodyPost_ret (D6.res_row rfl _ g4 38 _ _ rfl HB9.out Tryz.underlying38 rfl s25) rfl ⟨(⟨2, 1, 0, ⟨#[]⟩, []⟩, .nil), none, 0, none, 0, s2, b2, rfl, HQ.out⟩
theorem rv_false (dp : Int) (r : Nat) (s : ByteArray) (W : World) (hs : s.size <= 100000) (hb : Blk W r 79 [.string s, .bool false]) (hdp : dp <= 16) (T : List Nat) (hT : bts s = 102 :: T) :
 Calls Tryz.prog 36 #[.pointer (some ⟨r, 0, none⟩), .int .i64 dp] W fun e w' => ∃ (p : Vt) (na : Option Addr) (nc : Nat) (ka : Option Addr) (kc : Nat) (s' : ByteArray) (bad' : Bool), e = .returned (.agg #[.int .i64 p.1.k, .int .i64 p.1.n, .int .i64 p.1.s, .string p.1.t, .slice na p.1.ns.length nc, .slice ka p.2.list.length kc]) /\ Hid (Vq9 dp r W w' s s' false bad' p na nc ka kc) := by
 have he : s.toList.isEmpty = false := by
  cases hh : s.toList.isEmpty with
  | true =>
    have := (empty9 s).1 hh
    rw [<- bts_len, hT] at this
    simp at this
  | false => rfl
 have hd : decide ((16 : Int) < dp) = false := decide_eq_false (by omega)
 have hi := idx0 s 102 T hT
 have HT : Hid (bts s = 102 :: T) := hT
 clear hT
 have hrW : r < W.heap.size := hb.lt
 have HB : Hid (Blk W r 79 [.string s, .bool false]) := hb
 clear hb
 go_enter Tryz.func36, Tryz.ntmps36
 go_wp2_with (refine al_zero rfl 38 rfl zer z25 ?_)
 intro g4 w1 hg4 b1 gr1
 have HK1 : Hid (Kq r W w1 s false) := ⟨HB.out.kept gr1 (by simp), ⟨gr1.os, gr1.tape, gr1.output, gr1.size, fun x hx hne => gr1.block x hx (by simp)⟩⟩
 have HZ1 : Hid (Blk w1 g4 38 zer) := b1
 have hg4l : g4 < w1.heap.size := b1.lt
 have hW1 : W.heap.size <= w1.heap.size := gr1.size
 clear b1 gr1 HB
 have c0 : w1.cell? ⟨r, 0, none⟩ = some (.string s) := HK1.out.blk.cell 0
 have c1 : w1.cell? ⟨r, 1, none⟩ = some (.bool false) := HK1.out.blk.cell 1
 have K := rsign9 r s ⟨#[102, 97, 108, 115, 101]⟩ false (by omega) (by show (5 : Nat) <= 1000; omega) w1 HK1.out.blk
 go_wp2_with fail
 refine K.mono ?_
 rintro e w2 ⟨s2, b2, rfl, H2⟩
 have HK : Hid (Kq r W w2 s2 b2) := HK1.out.trans H2.out.kq
 have HZ : Hid (Blk w2 g4 38 zer) := HZ1.out.kept H2.out.kq.gr (by intro e; injection e with e; omega)
 have HVR : Hid (Vx dp (bts s) false (bts s2) b2 (lf 2 0 0 em)) := by
  have h1 := H2.out.rm
  have h2 := H2.out.eq
  rw [HT.out] at h1 h2 ⊢
  refine vx_false h1 fun hb => ?_
  rw [h2 hb, List.length_append]
  have : 0 < (bts ⟨#[102, 97, 108, 115, 101]⟩).length := by decide
  omega
 have HWF : Hid (WfV (⟨2, 0, 0, ⟨#[]⟩, []⟩, .nil)) := wf_leaf9 2 0 0 ⟨#[]⟩ (by omega) (by omega) (by omega) (by decide)
 clear K H2 HK1 HZ1 c0 c1 HT hi
 go_wp2_with (refine st_all rfl 38 (.tmp 4) (.tmp 54) rfl g4 38 zer [.int .i64 2, .int .i64 0, .int .i64 0, .string ⟨#[]⟩, .slice none 0 0, .slice none 0 0] rfl rfl HZ.out rfl s25 (D6.ones rfl) ?_)
 intro w9 b9 g9
 have HB9 : Hid (Blk w9 g4 38 [.int .i64 2, .int .i64 0, .int .i64 0, .string ⟨#[]⟩, .slice none 0 0, .slice none 0 0]) := b9
 have HQ : Hid (Vq9 dp r W w9 s s2 false b2 (⟨2, 0, 0, ⟨#[]⟩, []⟩, .nil) none 0 none 0) := ⟨kq_kept HK.out g9 hg4 hrW, ⟨[], vl_leaf9 _ _ _ _ _, fun x hx => by cases hx⟩, HWF.out, HVR.out⟩
 clear b9 g9 HZ HK HWF HVR
 go_wp2
 exact bodyPost_ret (D6.res_row rfl _ g4 38 _ _ rfl HB9.out Tryz.underlying38 rfl s25) rfl ⟨(⟨2, 0, 0, ⟨#[]⟩, []⟩, .nil), none, 0, none, 0, s2, b2, rfl, HQ.out⟩
theorem rv_text (dp : Int) (r : Nat) (s : ByteArray) (W : World) (hs : s.size <= 100000) (hb : Blk W r 79 [.string s, .bool false]) (hdp : dp <= 16) (T : List Nat) (hT : bts s = 39 :: T) :
 Calls Tryz.prog 36 #[.pointer (some ⟨r, 0, none⟩), .int .i64 dp] W fun e w' => ∃ (p : Vt) (na : Option Addr) (nc : Nat) (ka : Option Addr) (kc : Nat) (s' : ByteArray) (bad' : Bool), e = .returned (.agg #[.int .i64 p.1.k, .int .i64 p.1.n, .int .i64 p.1.s, .string p.1.t, .slice na p.1.ns.length nc, .slice ka p.2.list.length kc]) /\ Hid (Vq9 dp r W w' s s' false bad' p na nc ka kc) := by
 have he : s.toList.isEmpty = false := by
  cases hh : s.toList.isEmpty with
  | true =>
    have := (empty9 s).1 hh
    rw [<- bts_len, hT] at this
    simp at this
  | false => rfl
 have hd : decide ((16 : Int) < dp) = false := decide_eq_false (by omega)
 have hi := idx0 s 39 T hT
 have HT : Hid (bts s = 39 :: T) := hT
 clear hT
 have hrW : r < W.heap.size := hb.lt
 have HB : Hid (Blk W r 79 [.string s, .bool false]) := hb
 clear hb
 go_enter Tryz.func36, Tryz.ntmps36
 go_wp2_with (refine al_zero rfl 38 rfl zer z25 ?_)
 intro g4 w1 hg4 b1 gr1
 have HK1 : Hid (Kq r W w1 s false) := ⟨HB.out.kept gr1 (by simp), ⟨gr1.os, gr1.tape, gr1.output, gr1.size, fun x hx hne => gr1.block x hx (by simp)⟩⟩
 have HZ1 : Hid (Blk w1 g4 38 zer) := b1
 have hg4l : g4 < w1.heap.size := b1.lt
 have hW1 : W.heap.size <= w1.heap.size := gr1.size
 clear b1 gr1 HB
 have c0 : w1.cell? ⟨r, 0, none⟩ = some (.string s) := HK1.out.blk.cell 0
 have c1 : w1.cell? ⟨r, 1, none⟩ = some (.bool false) := HK1.out.blk.cell 1
 have K := rtext9 r s false (by omega) w1 HK1.out.blk
 go_wp2_with fail
 refine K.mono ?_
 rintro e w2 ⟨s2, b2, x, rfl, H2⟩
 have HK : Hid (Kq r W w2 s2 b2) := HK1.out.trans H2.out.kq
 have HZ : Hid (Blk w2 g4 38 zer) := HZ1.out.kept H2.out.kq.gr (by intro e; injection e with e; omega)
 have HVR : Hid (Vx dp (bts s) false (bts s2) b2 (⟨6, 0, 0, x, []⟩, .nil)) := by
  have R := H2.out.rt
  have hl := H2.out.pr
  have hz : (bts s).length = s.size := bts_len s
  rw [HT.out] at R hz ⊢
  exact vx_text R fun hb => by have := hl hb; rw [hz, bts_len]; exact this
 have HWF : Hid (WfV (⟨6, 0, 0, x, []⟩, .nil)) := wf_leaf9 6 0 0 x (by omega) (by omega) (by omega) (by have := H2.out.xs; omega)
 clear K H2 HK1 HZ1 c0 c1 HT hi
 go_wp2_with (refine st_all rfl 38 (.tmp 4) (.tmp 60) rfl g4 38 zer [.int .i64 6, .int .i64 0, .int .i64 0, .string x, .slice none 0 0, .slice none 0 0] rfl rfl HZ.out rfl s25 (D6.ones rfl) ?_)
 intro w9 b9 g9
 have HB9 : Hid (Blk w9 g4 38 [.int .i64 6, .int .i64 0, .int .i64 0, .string x, .slice none 0 0, .slice none 0 0]) := b9
 have HQ : Hid (Vq9 dp r W w9 s s2 false b2 (⟨6, 0, 0, x, []⟩, .nil) none 0 none 0) := ⟨kq_kept HK.out g9 hg4 hrW, ⟨[], vl_leaf9 _ _ _ _ _, fun x hx => by cases hx⟩, HWF.out, HVR.out⟩
 clear b9 g9 HZ HK HWF HVR
 go_wp2
 exact bodyPost_ret (D6.res_row rfl _ g4 38 _ _ rfl HB9.out Tryz.underlying38 rfl s25) rfl ⟨(⟨6, 0, 0, x, []⟩, .nil), none, 0, none, 0, s2, b2, rfl, HQ.out⟩
end Go.Proofs.YtobfdcdobhhagaaGreatDoor
