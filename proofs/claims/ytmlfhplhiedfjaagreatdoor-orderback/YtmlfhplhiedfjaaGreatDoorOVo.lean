/-
  The document's own reader of order: one, text.
-/
import Derived.Test.YtmlfhplhiedfjaaGreatDoorOUc
import Derived.Test.YtmlfhplhiedfjaaGreatDoorOG16x
namespace Go.Proofs.YtmlfhplhiedfjaaGreatDoor
open Go.RowKit Math
set_option linter.unusedVariables false
set_option linter.unusedSimpArgs false
abbrev QC (s : ByteArray) (bad : Bool) : List Value := [.string s, .bool bad]
abbrev Kq (r : Nat) (W w' : World) (s : ByteArray) (bad : Bool) : Prop := Kr 62 r W w' (QC s bad)
/-- How much is left. -/
def lft (g : Nat) (w : World) : Nat := match w.cell? ⟨g, 0, none⟩, w.cell? ⟨g, 1, none⟩ with
  | some (.string s), some (.bool b) => if b then 0 else s.size + 1
  | _, _ => 0
theorem lft_of {g : Nat} {w : World} {s : ByteArray} {b : Bool} (h : Blk w g 62 (QC s b)) : lft g w = if b then 0 else s.size + 1 := by
  unfold lft
  rw [show w.cell? ⟨g, 0, none⟩ = some (.string s) from h.cell 0, show w.cell? ⟨g, 1, none⟩ = some (.bool b) from h.cell 1]
theorem s9 : (Tryz.prog.info? 9).map (·.size) = some 1 := by kernel_rfl
theorem em_size {s : ByteArray} (h : s.size = 0) : s = ⟨#[]⟩ := ByteArray.ext (Array.eq_empty_of_size_eq_zero h)
set_option maxRecDepth 8000 in
set_option maxHeartbeats 1000000 in
theorem one_any (r : Nat) (s : ByteArray) (bad : Bool) (W : World) (hN : s.size ≤ 1000000) (hb : Blk W r 62 (QC s bad)) :
    Calls Tryz.prog 47 #[.pointer (some ⟨r, 0, none⟩)] W fun e w' => ∃ x s' bad', e = .returned (.int .u8 ((x : Nat) : Int)) ∧ Hid (Kq r W w' s' bad' ∧ Rb (bts s) bad (bts s') bad' x ∧ x < 256 ∧ s'.size ≤ s.size ∧ (bad' = true → x = 0)) := by
  have c0 : W.cell? ⟨r, 0, none⟩ = some (.string s) := hb.cell 0
  have c1 : W.cell? ⟨r, 1, none⟩ = some (.bool bad) := hb.cell 1
  have HB : Hid (Blk W r 62 [.string s, .bool bad]) := hb
  clear hb
  cases bad with
  | true =>
    go_enter Tryz.func47, Tryz.ntmps47
    go_wp2_with (refine st_one rfl 4 (.tmp 17) (.const (.bool true)) rfl r 1 62 _ (.bool true) rfl rfl rfl rfl (by simp) HB.out s4 ?_)
    intro w1 b1 g1
    have HK : Hid (Kq r W w1 s true) := ⟨b1, g1⟩
    clear b1 g1 HB
    go_wp2
    go_ret
    exact ⟨0, s, true, rfl, HK.out, ⟨⟨[], rfl⟩, fun h => (by cases h), fun h => (by cases h)⟩, by omega, Nat.le_refl _, fun _ => rfl⟩
  | false =>
    by_cases hz : s.size = 0
    · have hs := em_size hz
      have hq : s.toList.isEmpty = true := by rw [hs, ByteArray.toList_eq]; rfl
      have HD : Hid (bts s = []) := by rw [hs]; rfl
      clear hz hs
      go_enter Tryz.func47, Tryz.ntmps47
      go_wp2_with (refine st_one rfl 4 (.tmp 17) (.const (.bool true)) rfl r 1 62 _ (.bool true) rfl rfl rfl rfl (by simp) HB.out s4 ?_)
      intro w1 b1 g1
      have HK : Hid (Kq r W w1 s true) := ⟨b1, g1⟩
      clear b1 g1 HB
      go_wp2
      go_ret
      exact ⟨0, s, true, rfl, HK.out, ⟨⟨[], rfl⟩, fun h => (by cases h), fun _ y m _ hl => by rw [HD.out] at hl; cases hl⟩, by omega, Nat.le_refl _, fun _ => rfl⟩
    · have hq : s.toList.isEmpty = false := by
        rw [ByteArray.toList_eq]
        cases he : s.data.toList with
        | nil =>
          exfalso
          apply hz
          have : s.data.toList.length = 0 := by rw [he]; rfl
          simpa using this
        | cons a t => rfl
      have hp : 0 < s.size := by omega
      have hd := bts_drop s 0 hp
      rw [List.drop_zero, Nat.zero_add] at hd
      have hxl := (s[0]'hp).toNat_lt
      obtain ⟨x, hxe⟩ : ∃ x, x = (s[0]'hp).toNat := ⟨_, rfl⟩
      have hx0 : (s[0]'hp).toNat = x := hxe.symm
      rw [hx0] at hd hxl
      have HD : Hid (bts s = x :: bts (s.extract 1 s.size)) := by rw [bts_rest s 1 hp]; exact hd
      have hes : (s.extract 1 s.size).size ≤ s.size := by simp [ByteArray.size_extract]
      clear hd hxe hz
      generalize hS : s.extract 1 s.size = S at *
      go_enter Tryz.func47, Tryz.ntmps47
      go_wp2_with (refine st_one rfl 9 (.tmp 30) (.tmp 28) rfl r 0 62 _ (.string S) rfl (by first | rfl | (rw [← hS]; rfl)) rfl rfl (by simp) HB.out s9 ?_)
      intro w1 b1 g1
      have HK : Hid (Kq r W w1 S false) := ⟨b1, g1⟩
      clear b1 g1 HB
      go_wp2
      go_ret
      exact ⟨x, S, false, rfl, HK.out, ⟨⟨[x], HD.out⟩, fun _ => ⟨rfl, fun _ => HD.out⟩, fun _ y m _ hl => by
        rw [HD.out] at hl
        injection hl with h1 h2
        exact ⟨rfl, h1, h2⟩⟩, hxl, hes, fun h => by cases h⟩
/-! ### text -/
/-- A text, while it is read. -/
structure Tx (l : List Nat) (bad : Bool) (lk : List Nat) (bk : Bool) (acc : List Nat) : Prop where
  suf : ∃ c, l = c ++ lk
  so : bk = false → bad = false
  co : bad = false → ∀ (t : ByteArray) m, l = txK t ++ m → bk = false ∧ ∃ u, bts t = acc ++ u ∧ lk = esc u ++ (0 :: 0 :: m)
  ln : acc.length + lk.length ≤ l.length
  oc : Oct acc
theorem Tx.start (l : List Nat) (bad : Bool) : Tx l bad l bad [] :=
  ⟨⟨[], rfl⟩, fun h => h, fun h t m hl => ⟨h, bts t, rfl, by rw [hl, txK, List.append_assoc]; rfl⟩, by simp, fun x hx => by cases hx⟩
theorem suf_trans {l lk l1 : List Nat} (h : ∃ c, l = c ++ lk) (k : ∃ c, lk = c ++ l1) : ∃ c, l = c ++ l1 := by
  obtain ⟨c, e⟩ := h
  obtain ⟨d, f⟩ := k
  exact ⟨c ++ d, by rw [e, f, List.append_assoc]⟩
theorem rb_len1 {l l1 : List Nat} {b : Bool} {x : Nat} (R : Rb l b l1 false x) : l1.length + 1 ≤ l.length := by
  have := (R.so rfl).2 trivial
  rw [this]
  simp
theorem Tx.byte {l lk l1 : List Nat} {bad b1 : Bool} {acc : List Nat} {x : Nat} (h : Tx l bad lk false acc) (R : Rb lk false l1 b1 x) (hx : x ≠ 0) (hx2 : x < 256) (hb : b1 = false) : Tx l bad l1 b1 (acc ++ [x]) := by
  subst hb
  have hl := rb_len1 R
  have hn := h.ln
  refine ⟨suf_trans h.suf R.suf, fun _ => h.so rfl, fun hbb t m e => ?_, by simp only [List.length_append, List.length_singleton]; omega, fun y hy => ?_⟩
  · obtain ⟨_, u, e1, e2⟩ := h.co hbb t m e
    cases u with
    | nil =>
      have := (R.co rfl 0 _ trivial e2).2.1
      exact absurd this hx
    | cons y u =>
      rw [esc] at e2
      by_cases hy : y = 0
      · rw [if_pos hy] at e2
        have := (R.co rfl 0 _ trivial e2).2.1
        exact absurd this hx
      · rw [if_neg hy] at e2
        obtain ⟨r1, r2, r3⟩ := R.co rfl y _ trivial e2
        subst r2
        exact ⟨r1, u, by rw [e1]; simp, r3⟩
  · rcases List.mem_append.1 hy with hy | hy
    · exact h.oc y hy
    · simp at hy; omega
theorem Tx.zero {l lk l1 l2 : List Nat} {bad b1 b2 : Bool} {acc : List Nat} (h : Tx l bad lk false acc) (R : Rb lk false l1 b1 0) (R2 : Rb l1 b1 l2 b2 255) (hb : b2 = false) : Tx l bad l2 b2 (acc ++ [0]) := by
  subst hb
  have h1 := (R2.so rfl).1
  subst h1
  have hl := rb_len1 R
  have hl2 := rb_len1 R2
  have hn := h.ln
  refine ⟨suf_trans (suf_trans h.suf R.suf) R2.suf, fun _ => h.so rfl, fun hbb t m e => ?_, by simp only [List.length_append, List.length_singleton]; omega, fun y hy => ?_⟩
  · obtain ⟨_, u, e1, e2⟩ := h.co hbb t m e
    cases u with
    | nil =>
      obtain ⟨_, _, r3⟩ := R.co rfl 0 _ trivial e2
      have := (R2.co rfl 0 _ trivial r3).2.1
      cases this
    | cons y u =>
      rw [esc] at e2
      by_cases hy : y = 0
      · rw [if_pos hy] at e2
        obtain ⟨_, _, r3⟩ := R.co rfl 0 _ trivial e2
        obtain ⟨_, _, s3⟩ := R2.co rfl 255 _ trivial r3
        exact ⟨rfl, u, by rw [e1, hy]; simp, s3⟩
      · rw [if_neg hy] at e2
        have := (R.co rfl y _ trivial e2).2.1
        exact absurd this.symm hy
  · rcases List.mem_append.1 hy with hy | hy
    · exact h.oc y hy
    · simp at hy; omega
/-- 00 ahead of what is neither 00 nor ff. -/
theorem Tx.wrong {l lk l1 l2 : List Nat} {bad b1 b2 : Bool} {acc : List Nat} {x : Nat} (h : Tx l bad lk false acc) (R : Rb lk false l1 b1 0) (R2 : Rb l1 b1 l2 b2 x) (hx : x ≠ 0) (hx2 : x ≠ 255) (hl : acc.length + 1 + l2.length ≤ l.length) : Tx l bad l2 true (acc ++ [0]) := by
  refine ⟨suf_trans (suf_trans h.suf R.suf) R2.suf, fun e => (by cases e), fun hbb t m e => ?_, by simp only [List.length_append, List.length_singleton]; omega, fun y hy => ?_⟩
  · exfalso
    obtain ⟨_, u, e1, e2⟩ := h.co hbb t m e
    cases u with
    | nil =>
      obtain ⟨r1, _, r3⟩ := R.co rfl 0 _ trivial e2
      subst r1
      exact hx (R2.co rfl 0 _ trivial r3).2.1
    | cons y u =>
      rw [esc] at e2
      by_cases hy : y = 0
      · rw [if_pos hy] at e2
        obtain ⟨r1, _, r3⟩ := R.co rfl 0 _ trivial e2
        subst r1
        exact hx2 (R2.co rfl 255 _ trivial r3).2.1
      · rw [if_neg hy] at e2
        have := (R.co rfl y _ trivial e2).2.1
        exact absurd this.symm hy
  · rcases List.mem_append.1 hy with hy | hy
    · exact h.oc y hy
    · simp at hy; omega
abbrev RdX (l : List Nat) (bad : Bool) (l' : List Nat) (bad' : Bool) (t : ByteArray) : Prop := Rd txK (fun _ => False) (fun _ => True) l bad l' bad' t
theorem Tx.done {l lk l1 l2 : List Nat} {bad b1 b2 : Bool} {acc : List Nat} (h : Tx l bad lk false acc) (R : Rb lk false l1 b1 0) (R2 : Rb l1 b1 l2 b2 0) : RdX l bad l2 b2 (ofB acc) := by
  refine ⟨suf_trans (suf_trans h.suf R.suf) R2.suf, fun e => ⟨h.so rfl, fun x => x.elim⟩, fun hbb t m _ e => ?_⟩
  obtain ⟨_, u, e1, e2⟩ := h.co hbb t m e
  cases u with
  | nil =>
    obtain ⟨r1, _, r3⟩ := R.co rfl 0 _ trivial e2
    subst r1
    obtain ⟨s1, _, s3⟩ := R2.co rfl 0 _ trivial r3
    rw [List.append_nil] at e1
    exact ⟨s1, by rw [← e1, ofB_bts], s3⟩
  | cons y u =>
    exfalso
    rw [esc] at e2
    by_cases hy : y = 0
    · rw [if_pos hy] at e2
      obtain ⟨r1, _, r3⟩ := R.co rfl 0 _ trivial e2
      subst r1
      have := (R2.co rfl 255 _ trivial r3).2.1
      cases this
    · rw [if_neg hy] at e2
      have := (R.co rfl y _ trivial e2).2.1
      exact absurd this.symm hy
theorem Tx.end {l lk : List Nat} {bad : Bool} {acc : List Nat} (h : Tx l bad lk true acc) (t : ByteArray) : RdX l bad lk true t :=
  ⟨h.suf, fun e => (by cases e), fun hbb y m _ e => by have := (h.co hbb y m e).1; cases this⟩
theorem own_nil2 (w : World) (B : Nat) : Own w B (.slice none 0 0) [] := ⟨rfl, .inl ⟨rfl, rfl⟩⟩
set_option maxRecDepth 8000 in
set_option maxHeartbeats 4000000 in
theorem rtext_any (r : Nat) (s : ByteArray) (bad : Bool) (W : World) (hN : s.size ≤ 1000000) (hb : Blk W r 62 (QC s bad)) :
    Calls Tryz.prog 50 #[.pointer (some ⟨r, 0, none⟩)] W fun e w' => ∃ t s' bad', e = .returned (.string t) ∧ Hid (Kq r W w' s' bad' ∧ RdX (bts s) bad (bts s') bad' t ∧ t.size ≤ 1000000 ∧ s'.size ≤ s.size ∧ (bad' = false → t.size + s'.size ≤ s.size)) := by
  have hrW : r < W.heap.size := hb.lt
  have HB : Hid (Kq r W W s bad) := ⟨hb, World.grownBy.refl _ _⟩
  clear hb
  go_enter Tryz.func50, Tryz.ntmps50
  go_wp2
  go_loopw [3, 4] (fun vb _ wr => ∃ (v : Value) (sk : ByteArray) (bk : Bool) (acc : List Nat), v = vb ∧ sk.size ≤ s.size ∧ Hid (Kq r W wr sk bk ∧ Own wr W.heap.size v acc ∧ Tx (bts s) bad (bts sk) bk acc)) (fun _ _ wr => lft r wr)
  case atStart => exact ⟨_, s, bad, [], rfl, Nat.le_refl _, HB.out, own_nil2 _ _, Tx.start _ _⟩
  case round =>
    clear HB
    obtain ⟨v, sk, bk, acc, rfl, hsk, HJ⟩ := hrel
    have c1 : wr.cell? ⟨r, 1, none⟩ = some (.bool bk) := HJ.out.1.blk.cell 1
    have hal : acc.length ≤ 1000000 := by
      have := HJ.out.2.2.ln
      rw [bts_len, bts_len] at this
      omega
    have hsz : W.heap.size ≤ wr.heap.size := HJ.out.1.gr.size
    have HLf : Hid (lft r wr = if bk then 0 else sk.size + 1) := lft_of HJ.out.1.blk
    cases bk with
    | true =>
      have HR : Hid (RdX (bts s) bad (bts sk) true (ofB acc)) := HJ.out.2.2.end _
      have HK : Hid (Kq r W wr sk true) := HJ.out.1
      obtain ⟨va, vc, rfl, hvb, hvn, hvl, hvm⟩ := HJ.out.2.1.byt
      have hcv := conv_byt (c := vc) hvb HJ.out.2.2.oc hvn
      have HTs : Hid ((ofB acc).size ≤ 1000000) := by show _ ≤ _; rw [ofB_size]; exact hal
      clear HJ hvb hvn hvl hvm
      generalize ofB acc = T at *
      generalize acc.length = n at *
      go_wp2
      go_ret
      first
      | exact ⟨T, sk, true, rfl, HK.out, HR.out, HTs.out, hsk, fun e => by cases e⟩
      | exact ⟨T, rfl, sk, .inr ⟨HK.out, HR.out, HTs.out, hsk, fun e => by cases e⟩⟩
      | exact ⟨T, rfl, sk, .inr ⟨HK.out, HR.out, HTs.out, hsk⟩⟩
    | false =>
      have K := one_any r sk false wr (by omega) HJ.out.1.blk
      go_wp2_with fail
      refine K.mono ?_
      rintro e w1 ⟨x, s1, b1, rfl, H1⟩
      have HK1 : Hid (Kq r W w1 s1 b1) := HJ.out.1.trans H1.out.1
      have HR1 : Hid (Rb (bts sk) false (bts s1) b1 x) := H1.out.2.1
      have HT : Hid (Tx (bts s) bad (bts sk) false acc) := HJ.out.2.2
      have HO1 : Hid (Own w1 W.heap.size v acc) := World.ownsRow.kept HJ.out.2.1 H1.out.1.gr (.inr fun c => by have := (World.ownsRow.lt HJ.out.2.1 _ c).1; omega)
      have hsz1 : W.heap.size ≤ w1.heap.size := HK1.out.gr.size
      have hx : x < 256 := H1.out.2.2.1
      have hs1 : s1.size ≤ sk.size := H1.out.2.2.2.1
      have HXz : Hid (b1 = true → x = 0) := H1.out.2.2.2.2
      clear K H1 HJ c1
      by_cases hx0 : x = 0
      case neg =>
        have hxb : ((x : Int) != 0) = true := by simp; omega
        have hb1 : b1 = false := by
          cases b1 with
          | false => rfl
          | true => exact absurd (HXz.out rfl) hx0
        subst hb1
        have HF : Hid (Tx (bts s) bad (bts s1) false (acc ++ [x])) := HT.out.byte HR1.out hx0 hx rfl
        have hl1 : s1.size + 1 ≤ sk.size := by
          have := rb_len1 HR1.out
          rw [bts_len, bts_len] at this
          exact this
        go_wp2_with (at_builtin; go_must (refine ap_bytes rfl (.tmp 14) (.tmp 16) rfl W.heap.size v acc rfl (HO1.out.alloc _) _ _ _ [x] rfl rfl (byt_lit w1 [x]) (by simp) (by simp only [List.length_singleton]; omega) (by simp; omega) ?_))
        intro v2 w2 A2
        have hB2 : Below w1.heap.size w1 (w1.alloc (.cells #[.int .u8 (x : Int)] 5)) := (Below.refl _ _).alloc (Nat.le_refl _) _
        have HK2 : Hid (Kq r W w2 s1 false) := by
          have k1 := HK1.out.then hB2
          have hz : ∀ c, Value.ownBlock v = some c → W.heap.size ≤ c := fun c hc => (World.ownsRow.lt HO1.out _ hc).1
          refine ⟨k1.blk.kept A2.gr (fun c => by have := hz _ c.symm; omega), ⟨A2.gr.os.trans k1.gr.os, A2.gr.tape.trans k1.gr.tape, A2.gr.output.trans k1.gr.output, Nat.le_trans k1.gr.size A2.gr.size, fun y hy hne => (A2.gr.block y (Nat.lt_of_lt_of_le hy k1.gr.size) (fun c => by have := hz _ c.symm; omega)).trans (k1.gr.block y hy hne)⟩⟩
        have HO2 : Hid (Own w2 W.heap.size v2 (acc ++ [x])) := A2.own
        have HL2 : Hid (lft r w2 = s1.size + 1) := lft_of HK2.out.blk
        clear A2 hB2 HK1 HO1 HT HR1 HXz
        go_wp2
        go_roundw
        case rel => exact ⟨v2, s1, false, acc ++ [x], rfl, by omega, HK2.out, HO2.out, HF.out⟩
        case measure =>
          rw [HL2.out, HLf.out]
          simp
          omega
      subst hx0
      have K := one_any r s1 b1 w1 (by omega) HK1.out.blk
      go_wp2_with fail
      refine K.mono ?_
      rintro e w2 ⟨y, s2, b2, rfl, H2⟩
      have HK2 : Hid (Kq r W w2 s2 b2) := HK1.out.trans H2.out.1
      have HR2 : Hid (Rb (bts s1) b1 (bts s2) b2 y) := H2.out.2.1
      have HO2 : Hid (Own w2 W.heap.size v acc) := World.ownsRow.kept HO1.out H2.out.1.gr (.inr fun c => by have := (World.ownsRow.lt HO1.out _ c).1; omega)
      have hsz2 : W.heap.size ≤ w2.heap.size := HK2.out.gr.size
      have hy : y < 256 := H2.out.2.2.1
      have hs2 : s2.size ≤ s1.size := H2.out.2.2.2.1
      have HYz : Hid (b2 = true → y = 0) := H2.out.2.2.2.2
      clear K H2 HK1 HO1
      by_cases hy0 : y = 0
      · subst hy0
        have HR : Hid (RdX (bts s) bad (bts s2) b2 (ofB acc)) := HT.out.done HR1.out HR2.out
        obtain ⟨va, vc, rfl, hvb, hvn, hvl, hvm⟩ := HO2.out.byt
        have hcv := conv_byt (c := vc) hvb HT.out.oc hvn
        have HTs : Hid ((ofB acc).size ≤ 1000000 ∧ (ofB acc).size + s2.size ≤ s.size) := by
          have h1 := HT.out.ln
          rw [bts_len, bts_len] at h1
          rw [ofB_size]
          exact ⟨hal, by omega⟩
        clear HO2 HT HR1 HR2 hvb hvn hvl hvm
        generalize ofB acc = T at *
        generalize acc.length = n at *
        go_wp2
        go_ret
        exact ⟨T, s2, b2, rfl, HK2.out, HR.out, HTs.out.1, by omega, fun _ => HTs.out.2⟩
      have hb2 : b2 = false := by
        cases b2 with
        | false => rfl
        | true => exact absurd (HYz.out rfl) hy0
      subst hb2
      have hb1 : b1 = false := (HR2.out.so rfl).1
      subst hb1
      have hyb : ((y : Int) == 0) = false := beq_eq_false_iff_ne.2 (by omega)
      have hl2 : s2.size + 1 ≤ s1.size := by
        have := rb_len1 HR2.out
        rw [bts_len, bts_len] at this
        exact this
      have hl1 : s1.size + 1 ≤ sk.size := by
        have := rb_len1 HR1.out
        rw [bts_len, bts_len] at this
        exact this
      by_cases hyf : y = 255
      · subst hyf
        have HF : Hid (Tx (bts s) bad (bts s2) false (acc ++ [0])) := HT.out.zero HR1.out HR2.out rfl
        go_wp2_with (at_builtin; go_must (refine ap_bytes rfl (.tmp 27) (.tmp 28) rfl W.heap.size v acc rfl (HO2.out.alloc _) _ _ _ [0] rfl rfl (byt_lit w2 [0]) (by simp) (by simp only [List.length_singleton]; omega) (by simp; omega) ?_))
        intro v3 w3 A3
        have hB3 : Below w2.heap.size w2 (w2.alloc (.cells #[.int .u8 0] 5)) := (Below.refl _ _).alloc (Nat.le_refl _) _
        have HK3 : Hid (Kq r W w3 s2 false) := by
          have k1 := HK2.out.then hB3
          have hz : ∀ c, Value.ownBlock v = some c → W.heap.size ≤ c := fun c hc => (World.ownsRow.lt HO2.out _ hc).1
          refine ⟨k1.blk.kept A3.gr (fun c => by have := hz _ c.symm; omega), ⟨A3.gr.os.trans k1.gr.os, A3.gr.tape.trans k1.gr.tape, A3.gr.output.trans k1.gr.output, Nat.le_trans k1.gr.size A3.gr.size, fun y hy hne => (A3.gr.block y (Nat.lt_of_lt_of_le hy k1.gr.size) (fun c => by have := hz _ c.symm; omega)).trans (k1.gr.block y hy hne)⟩⟩
        have HO3 : Hid (Own w3 W.heap.size v3 (acc ++ [0])) := A3.own
        have HL3 : Hid (lft r w3 = s2.size + 1) := lft_of HK3.out.blk
        clear A3 hB3 HK2 HO2 HT HR1 HR2
        go_wp2
        go_roundw
        case rel => exact ⟨v3, s2, false, acc ++ [0], rfl, by omega, HK3.out, HO3.out, HF.out⟩
        case measure =>
          rw [HL3.out, HLf.out]
          simp
          omega
      · have hyg : ((y : Int) != 255) = true := by simp; omega
        have HF : Hid (Tx (bts s) bad (bts s2) true (acc ++ [0])) := HT.out.wrong HR1.out HR2.out hy0 hyf (by
          have := HT.out.ln
          rw [bts_len] at this ⊢
          omega)
        go_wp2_with (refine st_one rfl 4 (.tmp 26) (.const (.bool true)) rfl r 1 62 _ (.bool true) rfl rfl rfl rfl (by simp) HK2.out.blk s4 ?_)
        intro w3 b3 g3
        have HK3 : Hid (Kq r W w3 s2 true) := ⟨b3, HK2.out.gr.trans g3⟩
        have HO3 : Hid (Own w3 W.heap.size v acc) := World.ownsRow.kept HO2.out g3 (.inr fun c => by have := (World.ownsRow.lt HO2.out _ c).1; omega)
        have hsz3 : W.heap.size ≤ w3.heap.size := HK3.out.gr.size
        clear b3 g3 HK2 HO2
        go_wp2_with (at_builtin; go_must (refine ap_bytes rfl (.tmp 27) (.tmp 28) rfl W.heap.size v acc rfl (HO3.out.alloc _) _ _ _ [0] rfl rfl (byt_lit w3 [0]) (by simp) (by simp only [List.length_singleton]; omega) (by simp; omega) ?_))
        intro v4 w4 A4
        have hB4 : Below w3.heap.size w3 (w3.alloc (.cells #[.int .u8 0] 5)) := (Below.refl _ _).alloc (Nat.le_refl _) _
        have HK4 : Hid (Kq r W w4 s2 true) := by
          have k1 := HK3.out.then hB4
          have hz : ∀ c, Value.ownBlock v = some c → W.heap.size ≤ c := fun c hc => (World.ownsRow.lt HO3.out _ hc).1
          refine ⟨k1.blk.kept A4.gr (fun c => by have := hz _ c.symm; omega), ⟨A4.gr.os.trans k1.gr.os, A4.gr.tape.trans k1.gr.tape, A4.gr.output.trans k1.gr.output, Nat.le_trans k1.gr.size A4.gr.size, fun y hy hne => (A4.gr.block y (Nat.lt_of_lt_of_le hy k1.gr.size) (fun c => by have := hz _ c.symm; omega)).trans (k1.gr.block y hy hne)⟩⟩
        have HO4 : Hid (Own w4 W.heap.size v4 (acc ++ [0])) := A4.own
        have HL4 : Hid (lft r w4 = 0) := lft_of HK4.out.blk
        clear A4 hB4 HK3 HO3 HT HR1 HR2
        go_wp2
        go_roundw
        case rel => exact ⟨v4, s2, true, acc ++ [0], rfl, by omega, HK4.out, HO4.out, HF.out⟩
        case measure =>
          rw [HL4.out, HLf.out]
          simp
end Go.Proofs.YtmlfhplhiedfjaaGreatDoor
