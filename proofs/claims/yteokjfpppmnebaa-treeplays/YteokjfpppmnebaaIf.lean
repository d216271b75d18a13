/-
  fall: what is under a node is gone through falling, from one text on, up to another one.
-/
import Derived.Test.YteokjfpppmnebaaIe
namespace Go.Proofs.Yteokjfpppmnebaa
open Go.RowKit Go.Shelf
set_option linter.unusedVariables false
set_option linter.unusedSimpArgs false
attribute [local go_sem] Oper.semAt_some
attribute [local go_sem] bo_geq bo_leq
def dnto (frm : ByteArray) (L : List E) : List E := L.takeWhile fun e => !blt e.1 frm
theorem dnto_nil (frm : ByteArray) : dnto frm [] = [] := rfl
theorem dnto_stop {frm : ByteArray} {e : E} {r : List E} (h : blt e.1 frm = true) : dnto frm (e :: r) = [] := by
  unfold dnto; rw [List.takeWhile_cons]; simp [h]
theorem dnto_go {frm : ByteArray} {e : E} {r : List E} (h : blt e.1 frm = false) : dnto frm (e :: r) = e :: dnto frm r := by
  unfold dnto; rw [List.takeWhile_cons]; simp [h]
/-- Where a node's slots below a text end. -/
def endp (to : ByteArray) (ss : List Sl) : Nat := match to.toList.isEmpty with
  | true => ss.length
  | false => sk ss to
theorem endp_le (to : ByteArray) (ss : List Sl) : endp to ss ≤ ss.length := by
  unfold endp
  split
  · exact Nat.le_refl _
  · exact sk_le ss to
/-- What is under a node up to a text, falling. -/
def fl (to : ByteArray) : Nat → B → List E
  | 0, .lf _ es => (es.take (endp to (es.map sE))).reverse
  | 0, .nd _ _ => []
  | _ + 1, .lf _ _ => []
  | l + 1, .nd _ ks => (ks.take (endp to (ks.map sK))).reverse.flatMap fun p => fl to l p.2
structure FallR (frm : ByteArray) (N : Nat → Prop) (J Jx : List E → World → Prop) (xs pf rest : List E) (w w' : World) (c : Bool) : Prop where
  bl : Kp N w w'
  yes : c = true → J pf w' ∧ xs = pf ++ dnto frm rest
  no : c = false → J xs w' ∨ ∃ pre x post, xs = pre ++ x :: post ∧ Jx (pre ++ [x]) w'
def FallC (frm to : ByteArray) (N : Nat → Prop) (r lp : Nat) (J Jx : List E → World → Prop) (xs : List E) (l : Nat) : Prop :=
  ∀ (t : B) (nx : Option Nat) (rd : Int) (w : World) (pre rest : List E), Mem w l t nx rd → Ok l t → (∀ x ∈ fps l t, N x) → (∀ e ∈ ents l t, e.1.size ≤ 281474976710656) → xs = pre ++ dnto frm (fl to l t ++ rest) → J pre w →
    Calls Try.prog 40 #[.pointer (some ⟨t.bk, 0, none⟩), .string frm, .string to, .func (.yield lp) #[] #[]] w fun e w' => ∃ c : Bool, e = .returned (.bool c) ∧ Hid (FallR frm N J Jx xs (pre ++ fl to l t) rest w w' c)
theorem rev_take {α : Type} {L : List α} {k : Nat} {x : α} (h : L[k]? = some x) : (L.take (k + 1)).reverse = x :: (L.take k).reverse := by
  rw [List.take_add_one, h]
  simp
/-- Where the loop stands in a leaf. -/
structure FI (frm : ByteArray) (w wr : World) (N : Nat → Prop) (J : List E → World → Prop) (xs es pf rest : List E) (k : Nat) (pre : List E) : Prop where
  eq : xs = pre ++ dnto frm ((es.take k).reverse ++ rest)
  pf : pre ++ (es.take k).reverse = pf
  jj : J pre wr
  bl : Kp N w wr
set_option maxRecDepth 8000 in
set_option maxHeartbeats 1000000 in
theorem fall_leaf (frm to : ByteArray) (N : Nat → Prop) (r lp : Nat) (J Jx : List E → World → Prop) (xs : List E) (hJ : Abid r J) (hJx : Abid r Jx)
    (hY : ∀ k pre x W1, J pre W1 → (∃ post, xs = pre ++ x :: post) → RoundT k lp N J Jx pre x W1) : FallC frm to N r lp J Jx xs 0 := by
  intro t nx rd w pre rest hM ho hN hsz hX hj
  cases t with
  | nd b ks => exact hM.elim
  | lf b es =>
  have hNd : Nd w b 0 (es.map sE) nx rd := hM
  have hNb : N b := hN b (by simp [fps, B.bk])
  have hsz' : ∀ e ∈ es, e.1.size ≤ 281474976710656 := hsz
  have HJ : Hid (Abid r J ∧ Abid r Jx ∧ (∀ k pre x W1, J pre W1 → (∃ post, xs = pre ++ x :: post) → RoundT k lp N J Jx pre x W1) ∧ J pre w) := ⟨hJ, hJx, hY, hj⟩
  obtain ⟨k0, Hk0⟩ : ∃ k, Hid (endp to (es.map sE) = k) := ⟨_, rfl⟩
  obtain ⟨len, Hlen⟩ : ∃ n, Hid ((es.map sE).length = n) := ⟨_, rfl⟩
  have hk16 : k0 ≤ 16 := by have h1 := endp_le to (es.map sE); have h2 := hNd.le; rw [Hk0.out] at h1; omega
  have hkl : k0 ≤ es.length := by have h1 := endp_le to (es.map sE); rw [Hk0.out] at h1; simpa using h1
  obtain ⟨pf, Hpf⟩ : ∃ pf, Hid (pre ++ fl to 0 (.lf b es) = pf) := ⟨_, rfl⟩
  have HX : Hid (xs = pre ++ dnto frm ((es.take k0).reverse ++ rest) ∧ pre ++ (es.take k0).reverse = pf) := by
    rw [← Hpf.out, ← Hk0.out]
    exact ⟨hX, rfl⟩
  rw [Hpf.out]
  have HN : Hid (∀ W, Kp N w W → Nd W b 0 (es.map sE) nx rd) := fun W g => hNd.kp g hNb
  have HE : Hid ((∀ e ∈ es, e.1.size ≤ 281474976710656) ∧ k0 ≤ es.length) := ⟨hsz', hkl⟩
  obtain ⟨ss, Hss⟩ : ∃ ss, Hid (es.map sE = ss) := ⟨_, rfl⟩
  obtain ⟨lv, Hlv⟩ : ∃ lv : Int, Hid ((0 : Int) = lv) := ⟨_, rfl⟩
  obtain ⟨nxx, Hnx⟩ : ∃ n, Hid (nx = n) := ⟨_, rfl⟩
  rw [Hss.out] at Hk0 Hlen
  rw [Hss.out, Hlv.out, Hnx.out] at hNd
  have HSK : Hid (to.toList.isEmpty = false → ∃ hb, ∀ W, Below w.heap.size w W → Calls Try.prog 43 #[.pointer (some ⟨b, 0, none⟩), .string to] W fun e w' => e = .returned (.tuple #[.int .i64 (k0 : Int), .bool hb]) ∧ Hid (Below W.heap.size W w')) := fun hz => by
    refine ⟨hit ss to, fun W hW => ?_⟩
    have := seek_any b lv ss nxx rd to W (hNd.below hW hNd.lt)
    have e : endp to ss = sk ss to := by unfold endp; rw [hz]
    rw [← e, Hk0.out] at this
    exact this
  have c1 : w.cell? ⟨b, 1, none⟩ = some (.int .i64 (len : Int)) := by rw [← Hlen.out]; exact hNd.count
  have hl16 : len ≤ 16 := by rw [← Hlen.out]; exact hNd.le
  show Calls _ _ #[.pointer (some ⟨b, 0, none⟩), _, _, _] _ _
  clear hM ho hN hsz hX hj hJ hJx hY hNd hNb hsz' hkl Hpf
  go_enter Try.func40, Try.ntmps40
  rcases Bool.eq_false_or_eq_true to.toList.isEmpty with hz | hz
  case' inl =>
    have hk0 : k0 = len := by rw [← Hk0.out, ← Hlen.out]; unfold endp; rw [hz]
    clear HSK
    subst hk0
    have HBz : Hid (Kp N w w) := Kp.refl _ _
    have HJz : Hid (J pre w) := HJ.out.2.2.2
    go_wp2_with fail
  case' inr =>
    obtain ⟨hb, K⟩ := HSK.out hz
    clear HSK
    go_wp2_with fail
    refine (K w (Below.refl _ _)).mono ?_
    clear K
    rintro e wz ⟨rfl, Hz⟩
    have HBz : Hid (Kp N w wz) := Kp.of_below Hz.out
    have HJz : Hid (J pre wz) := HJ.out.1 _ _ _ HJ.out.2.2.2 (by_below Hz.out _)
    clear Hz
    go_wp2_with fail
  all_goals
    clear Hk0 Hlen hl16 c1
    go_loopg [10] k0 (fun g i wr => ∃ (k : Nat) (iv : Int) (p2 : List E), Hid (k = g) ∧ k ≤ k0 ∧ Hid (iv = (k : Int) - 1) ∧ i = .int .i64 iv ∧ Hid (FI frm w wr N J xs es pf rest k p2))
    case atStart => exact ⟨k0, _, pre, rfl, Nat.le_refl _, (by show _ = _; rfl), (by first | rfl | go_num), HX.out.1, HX.out.2, HJz.out, HBz.out⟩
    case round =>
      obtain ⟨k, iv, p2, Hk, hkk, Hiv, rfl, HR⟩ := hrel
      clear HBz HJz HX
      have Hk' : k = gk := Hk.out
      subst Hk'
      cases k with
      | zero =>
        obtain rfl : iv = -1 := by have := Hiv.out; omega
        have HE1 : Hid (FallR frm N J Jx xs pf rest w wr true) := by
          have h1 := HR.out.eq
          have h2 := HR.out.pf
          simp at h1 h2
          subst h2
          exact ⟨HR.out.bl, fun _ => ⟨HR.out.jj, h1⟩, fun h => by cases h⟩
        clear HR Hiv HN HE Hk
        go_wp2
        go_ret
        exact ⟨true, rfl, HE1.out⟩
      | succ k =>
        obtain rfl : iv = (k : Int) := by have := Hiv.out; omega
        have hkx : k < es.length := by have := HE.out.2; omega
        have hi16 : (k : Int) < 16 := by omega
        obtain ⟨x, hx⟩ : ∃ x, es[k]? = some x := ⟨_, List.getElem?_eq_getElem hkx⟩
        have HR2 : Hid (xs = p2 ++ dnto frm (x :: ((es.take k).reverse ++ rest)) ∧ (p2 ++ [x]) ++ (es.take k).reverse = pf ∧ J p2 wr ∧ Kp N w wr) := by
          have h1 := HR.out.eq
          have h2 := HR.out.pf
          rw [rev_take hx] at h1 h2
          exact ⟨h1, by rw [← h2]; simp, HR.out.jj, HR.out.bl⟩
        have hxz : x.1.size ≤ 281474976710656 := HE.out.1 x (List.mem_of_getElem? hx)
        have hNr := HN.out wr HR.out.bl
        have HC : Hid (wr.rangeAt b (2 + k * 3) (slC (sE x))) := hNr.rows k (sE x) (by rw [List.getElem?_map, hx]; rfl)
        have c0 : wr.cell? ⟨b, 0, none⟩ = some (.int .i64 0) := hNr.level
        have hbl : b < wr.heap.size := hNr.lt
        clear HR hNr hx Hiv Hk
        go_wp2_with (first
          | (refine ld_w (by rfl) 60 (.tmp 34) rfl b (2 + k * 3) rfl (slC (sE x)) _ HC.out Try.underlying60 rfl (sSl (sE x)) ?_)
          | (refine al_zero rfl 60 rfl (slC z0) zSl ?_))
        intro g w4 l4 B4 G4
        go_wp2_with (refine st_all rfl 60 (.tmp 11) (.tmp 35) rfl g 60 (slC z0) (slC (sE x)) rfl rfl B4 rfl (sSl (sE x)) (slC_one _) ?_)
        intro w5 B5 G5
        have HB5 : Hid (Below wr.heap.size wr w5) := ((Below.refl wr.heap.size wr).grown G4 (Nat.le_refl _) (by simp)).grown G5 G4.size (fun k e => by injection e with e; omega)
        have HGB : Hid (Blk w5 g 60 (slC (sE x))) := B5
        have d0 : w5.cell? ⟨b, 0, none⟩ = some (.int .i64 0) := (HB5.out.cell (p := ⟨b, 0, none⟩) hbl).trans c0
        have HI5 : Hid (J p2 w5 ∧ Kp N w w5) := ⟨HJ.out.1 _ _ _ HR2.out.2.2.1 (by_below HB5.out _), HR2.out.2.2.2.trans (Kp.of_below HB5.out)⟩
        clear B4 G4 B5 G5 HC l4 c0 hbl
        go_wp2_with fail
        clear d0
        by_cases hov : blt x.1 frm = true
        · obtain ⟨C, hC⟩ : ∃ C : World → Prop, C = fun W => Below w5.heap.size w5 W := ⟨_, rfl⟩
          have C0 : Hid (C { w5 with drawn := w5.drawn + 1 }) := by rw [hC]; exact Below.drew (Below.refl _ _)
          have CO : Hid (∀ W, C W → Below w5.heap.size w5 W) := fun W g => by rw [hC] at g; exact g
          have F1 : Hid (∀ W, C W → W.cell? ⟨g, 0, none⟩ = some (.string x.1)) := fun W hW => (HGB.out.below (CO.out W hW) HGB.out.lt).cell 0
          have HXS : Hid (xs = p2) := by
            have := HR2.out.1
            rw [dnto_stop hov, List.append_nil] at this
            exact this
          have h2 : Op.bytesLess x.1.toList frm.toList = true := hov
          clear hC hov
          have hCp : ∀ p : Prop, (∀ W, C W → p) ↔ p := fun p => ⟨fun h => h _ C0.out, fun h _ _ => h⟩
          refine wp_region_quiet (C := C) (by kernel_rfl) (by kernel_rfl) C0.out ?_
          change wpQuiet _ _ _ _ (_ :: _ :: _ :: _ :: _ :: _ :: _ :: _ :: _ :: _ :: _ :: _ :: _ :: _ :: []) _
          repeat (first
            | go_big_quiet_skip
            | (go_big_quiet_want
               first
               | (refine q_cell 9 (.inr (.inl rfl)) (.tmp 48) rfl g 0 rfl _ F1.out ?_
                  simp only [Act.put, List.setIfInBounds_toArray, List.set_cons_zero, List.set_cons_succ]
                  go_big_quiet_on)
               | (go_big_quiet_op
                  go_big_quiet_on)))
          refine wpQuiet_nil ?_
          intro w9 h9
          have HE1 : Hid (FallR frm N J Jx xs pf rest w w9 false) := by
            have hb := CO.out _ h9
            refine ⟨HI5.out.2.trans (Kp.of_below hb), (fun h => by cases h), fun _ => .inl ?_⟩
            rw [HXS.out]
            exact HJ.out.1 _ _ _ HI5.out.1 (by_below hb _)
          clear h9 hCp C0 CO F1 HXS HGB HI5 HR2 HB5
          go_wp2
          go_ret
          exact ⟨false, rfl, HE1.out⟩
        have hov : blt x.1 frm = false := by simpa using hov
        have HXS : Hid (xs = p2 ++ x :: dnto frm ((es.take k).reverse ++ rest)) := by
          have := HR2.out.1
          rw [dnto_go hov] at this
          exact this
        obtain ⟨C, hC⟩ : ∃ C : World → Prop, C = fun W => Below w5.heap.size w5 W := ⟨_, rfl⟩
        have C0 : Hid (C { w5 with drawn := w5.drawn + 1 }) := by rw [hC]; exact Below.drew (Below.refl _ _)
        have CO : Hid (∀ W, C W → Below w5.heap.size w5 W) := fun W g => by rw [hC] at g; exact g
        have CM : Hid (∀ W, Below w5.heap.size w5 W → C W) := fun W g => by rw [hC]; exact g
        have F1 : Hid (∀ W, C W → W.cell? ⟨g, 0, none⟩ = some (.string x.1)) := fun W hW => (HGB.out.below (CO.out W hW) HGB.out.lt).cell 0
        have F2 : Hid (∀ W, C W → W.cell? ⟨g, 1, none⟩ = some (.int .i64 x.2)) := fun W hW => (HGB.out.below (CO.out W hW) HGB.out.lt).cell 1
        have HRD : Hid (∀ k W, C W → RoundT k lp N J Jx p2 x W) := fun k W g => HJ.out.2.2.1 k p2 x W (HJ.out.1 _ _ _ HI5.out.1 (by_below (CO.out W g) _)) ⟨_, HXS.out⟩
        have h2 : Op.bytesLess x.1.toList frm.toList = false := hov
        clear hC hov
        refine region_I C 11 7 (by kernel_rfl) ?_
        have hCp : ∀ p : Prop, (∀ W, C W → p) ↔ p := fun p => ⟨fun h => h _ C0.out, fun h _ _ => h⟩
        generalize ({ w5 with drawn := w5.drawn + 1 } : World) = y0 at *
        refine segI 4 [0, 1, 2, 3, 4, 5, 6, 7, 9, 10] rfl (by kernel_rfl) C0.out (by kernel_rfl) ?_
        change wpQuiet _ _ _ _ (_ :: _ :: _ :: _ :: _ :: _ :: _ :: _ :: _ :: _ :: []) _
        repeat (first
          | go_big_quiet_skip
          | (go_big_quiet_want
             first
             | (refine q_cell 9 (.inr (.inl rfl)) (.tmp 48) rfl g 0 rfl _ F1.out ?_
                simp only [Act.put, List.setIfInBounds_toArray, List.set_cons_zero, List.set_cons_succ]
                go_big_quiet_on)
             | (refine q_cell 9 (.inr (.inl rfl)) (.tmp 54) rfl g 0 rfl _ F1.out ?_
                simp only [Act.put, List.setIfInBounds_toArray, List.set_cons_zero, List.set_cons_succ]
                go_big_quiet_on)
             | (refine q_cell 3 (.inl rfl) (.tmp 57) rfl g 1 rfl _ F2.out ?_
                simp only [Act.put, List.setIfInBounds_toArray, List.set_cons_zero, List.set_cons_succ]
                go_big_quiet_on)
             | (go_big_quiet_op
                go_big_quiet_on)))
        refine wpQuiet_nil ?_
        refine loneI (i := 8) 3 rfl (by kernel_rfl) rfl (by rfl) ?_
        intro K hK
        refine callI 28 _ _ rfl #[.string x.1] (by rw [List.map_toArray]; rfl) (enters Try.func28 (by kernel_rfl) rfl) (fun v w' => v = .string x.1 ∧ Hid (Below y0.heap.size y0 w')) ((sclone_any x.1 hxz y0).mono (by rintro e w' ⟨rfl, h⟩; exact ⟨_, rfl, rfl, h⟩)) ?_
        rintro v y1 ⟨rfl, H1⟩
        have C1 : Hid (C y1) := CM.out _ ((CO.out _ C0.out).trans (H1.out.mono (CO.out _ C0.out).size))
        refine hK _ _ (.inr C1.out) ?_
        clear hK K
        simp only [Act.put, List.setIfInBounds_toArray, List.set_cons_zero, List.set_cons_succ]
        refine loneI (i := 11) 2 rfl (by kernel_rfl) rfl (by rfl) ?_
        intro K hK
        refine yieldI (.tmp 53) _ _ rfl lp rfl #[.string x.1, .int .i64 x.2] (by rw [List.map_toArray]; rfl) _ (HRD.out _ y1 C1.out) ?_
        intro e y2 hor
        obtain ⟨c, rfl, HD⟩ : ∃ c : Bool, e = .returned (.bool c) ∧ Hid ((c = true → J (p2 ++ [x]) y2) ∧ (c = false → Jx (p2 ++ [x]) y2) ∧ Kp N w y2) := by
          have hb1 : Kp N w y1 := HI5.out.2.trans (Kp.of_below (CO.out _ C1.out))
          rcases hor with ⟨rfl, hj, hb⟩ | ⟨rfl, hj, hb⟩
          · exact ⟨true, rfl, fun _ => hj, (fun h => by cases h), hb1.trans hb⟩
          · exact ⟨false, rfl, (fun h => by cases h), fun _ => hj, hb1.trans hb⟩
        refine ⟨_, rfl, ?_⟩
        refine hK _ _ (.inl (by kernel_rfl)) ?_
        clear hK K hor hCp
        simp only [Act.put, List.setIfInBounds_toArray, List.set_cons_zero, List.set_cons_succ]
        have hCp : ∀ p : Prop, (∀ W, W = y2 → p) ↔ p := fun p => ⟨fun h => h _ rfl, fun h _ _ => h⟩
        cases c
        all_goals
          refine calmI (i := 12) 1 rfl (by kernel_rfl) rfl rfl (.inl (by kernel_rfl)) ?_
          repeat (first | go_big_quiet_skip | (go_big_quiet_want; go_big_quiet_op; go_big_quiet_on))
          refine wpQuiet_nil ?_
          refine calmI (i := 13) 0 rfl (by kernel_rfl) rfl rfl (.inl (by kernel_rfl)) ?_
          repeat (first | go_big_quiet_skip | (go_big_quiet_want; go_big_quiet_op; go_big_quiet_on))
          refine wpQuiet_nil ?_
          refine doneI (by kernel_rfl) ?_
        · have HE1 : Hid (FallR frm N J Jx xs pf rest w y2 false) := ⟨HD.out.2.2, fun h => (by cases h), fun _ => .inr ⟨p2, x, _, HXS.out, HD.out.2.1 rfl⟩⟩
          clear C0 C1 H1 HD hCp CO CM F1 F2 HRD HGB HXS HI5 HR2 HB5
          go_wp2
          go_ret
          exact ⟨false, rfl, HE1.out⟩
        · have HE1 : Hid (FI frm w y2 N J xs es pf rest k (p2 ++ [x])) := ⟨by rw [List.append_assoc]; exact HXS.out, HR2.out.2.1, HD.out.1 rfl, HD.out.2.2⟩
          have hk1 : k ≤ k0 := by omega
          clear C0 C1 H1 HD hCp CO CM F1 F2 HRD HGB HXS HI5 HR2 HB5 hkk
          go_wp2
          go_roundg k
          case measure => omega
          case rel => exact ⟨k, _, p2 ++ [x], rfl, hk1, (by show _ = _; rfl), (by first | rfl | go_num), HE1.out⟩
/-- Where the loop stands in a node with kids. -/
structure FK (frm to : ByteArray) (l : Nat) (w wr : World) (N : Nat → Prop) (J : List E → World → Prop) (xs : List E) (ks : List KB) (pf rest : List E) (k : Nat) (pre : List E) : Prop where
  eq : xs = pre ++ dnto frm (((ks.take k).reverse.flatMap fun p => fl to l p.2) ++ rest)
  pf : pre ++ ((ks.take k).reverse.flatMap fun p => fl to l p.2) = pf
  jj : J pre wr
  bl : Kp N w wr
set_option maxRecDepth 8000 in
set_option maxHeartbeats 1000000 in
theorem fall_node (frm to : ByteArray) (N : Nat → Prop) (r lp : Nat) (J Jx : List E → World → Prop) (xs : List E) (hJ : Abid r J) (l : Nat) (ih : FallC frm to N r lp J Jx xs l) : FallC frm to N r lp J Jx xs (l + 1) := by
  intro t nx rd w pre rest hM ho hN hsz hX hj
  cases t with
  | lf b es => exact hM.elim
  | nd b ks =>
  have hNd : Nd w b ((l + 1 : Nat) : Int) (ks.map sK) none rd := hM.1
  have hNb : N b := hN b (by simp [fps])
  have HJ : Hid (Abid r J ∧ True ∧ True ∧ J pre w) := ⟨hJ, trivial, trivial, hj⟩
  obtain ⟨k0, Hk0⟩ : ∃ k, Hid (endp to (ks.map sK) = k) := ⟨_, rfl⟩
  obtain ⟨len, Hlen⟩ : ∃ n, Hid ((ks.map sK).length = n) := ⟨_, rfl⟩
  have hk16 : k0 ≤ 16 := by have h1 := endp_le to (ks.map sK); have h2 := hNd.le; rw [Hk0.out] at h1; omega
  have hkl : k0 ≤ ks.length := by have h1 := endp_le to (ks.map sK); rw [Hk0.out] at h1; simpa using h1
  obtain ⟨pf, Hpf⟩ : ∃ pf, Hid (pre ++ fl to (l + 1) (.nd b ks) = pf) := ⟨_, rfl⟩
  have HX : Hid (xs = pre ++ dnto frm (((ks.take k0).reverse.flatMap fun p => fl to l p.2) ++ rest) ∧ pre ++ ((ks.take k0).reverse.flatMap fun p => fl to l p.2) = pf) := by
    rw [← Hpf.out, ← Hk0.out]
    exact ⟨hX, rfl⟩
  rw [Hpf.out]
  have HN : Hid (∀ W, Kp N w W → Nd W b ((l + 1 : Nat) : Int) (ks.map sK) none rd) := fun W g => hNd.kp g hNb
  have HE : Hid ((∀ W (k : Nat) (p : KB) (p2 : List E), ks[k]? = some p → Kp N w W → J p2 W → xs = p2 ++ dnto frm (fl to l p.2 ++ (((ks.take k).reverse.flatMap fun p => fl to l p.2) ++ rest)) →
      Calls Try.prog 40 #[.pointer (some ⟨p.2.bk, 0, none⟩), .string frm, .string to, .func (.yield lp) #[] #[]] W fun e w' => ∃ c : Bool, e = .returned (.bool c) ∧ Hid (FallR frm N J Jx xs (p2 ++ fl to l p.2) (((ks.take k).reverse.flatMap fun p => fl to l p.2) ++ rest) W w' c)) ∧ k0 ≤ ks.length) := by
    refine ⟨fun W k p p2 hp hW hjp hxp => ?_, hkl⟩
    have hpm : p ∈ ks := List.mem_of_getElem? hp
    have hMW : Mem W (l + 1) (.nd b ks) nx rd := hM.kp hW hN
    obtain ⟨nx', hm⟩ := chain_mem hMW.2 p hpm
    exact ih p.2 nx' 0 W p2 _ hm (ho.kid hpm) (fun x hx => hN x (by simp only [fps, List.mem_cons, List.mem_flatMap]; exact .inr ⟨p, hpm, hx⟩)) (fun e he => hsz e (by simp only [ents, List.mem_flatMap]; exact ⟨p, hpm, he⟩)) hxp hjp
  obtain ⟨ss, Hss⟩ : ∃ ss, Hid (ks.map sK = ss) := ⟨_, rfl⟩
  obtain ⟨lv, Hlv⟩ : ∃ lv : Int, Hid (((l + 1 : Nat) : Int) = lv) := ⟨_, rfl⟩
  obtain ⟨nxx, Hnx⟩ : ∃ n, Hid ((none : Option Nat) = n) := ⟨_, rfl⟩
  have hlv : 0 < lv := by rw [← Hlv.out]; omega
  rw [Hss.out] at Hk0 Hlen
  rw [Hss.out, Hlv.out, Hnx.out] at hNd
  rw [Hlv.out] at HN
  have HSK : Hid (to.toList.isEmpty = false → ∃ hb, ∀ W, Below w.heap.size w W → Calls Try.prog 43 #[.pointer (some ⟨b, 0, none⟩), .string to] W fun e w' => e = .returned (.tuple #[.int .i64 (k0 : Int), .bool hb]) ∧ Hid (Below W.heap.size W w')) := fun hz => by
    refine ⟨hit ss to, fun W hW => ?_⟩
    have := seek_any b lv ss nxx rd to W (hNd.below hW hNd.lt)
    have e : endp to ss = sk ss to := by unfold endp; rw [hz]
    rw [← e, Hk0.out] at this
    exact this
  have c1 : w.cell? ⟨b, 1, none⟩ = some (.int .i64 (len : Int)) := by rw [← Hlen.out]; exact hNd.count
  have hl16 : len ≤ 16 := by rw [← Hlen.out]; exact hNd.le
  show Calls _ _ #[.pointer (some ⟨b, 0, none⟩), _, _, _] _ _
  clear hM ho hN hsz hX hj hJ hNd hNb hkl Hpf ih
  go_enter Try.func40, Try.ntmps40
  rcases Bool.eq_false_or_eq_true to.toList.isEmpty with hz | hz
  case' inl =>
    have hk0 : k0 = len := by rw [← Hk0.out, ← Hlen.out]; unfold endp; rw [hz]
    clear HSK
    subst hk0
    have HBz : Hid (Kp N w w) := Kp.refl _ _
    have HJz : Hid (J pre w) := HJ.out.2.2.2
    go_wp2_with fail
  case' inr =>
    obtain ⟨hb, K⟩ := HSK.out hz
    clear HSK
    go_wp2_with fail
    refine (K w (Below.refl _ _)).mono ?_
    clear K
    rintro e wz ⟨rfl, Hz⟩
    have HBz : Hid (Kp N w wz) := Kp.of_below Hz.out
    have HJz : Hid (J pre wz) := HJ.out.1 _ _ _ HJ.out.2.2.2 (by_below Hz.out _)
    clear Hz
    go_wp2_with fail
  all_goals
    clear Hk0 Hlen hl16 c1
    go_loopg [10] k0 (fun g i wr => ∃ (k : Nat) (iv : Int) (p2 : List E), Hid (k = g) ∧ k ≤ k0 ∧ Hid (iv = (k : Int) - 1) ∧ i = .int .i64 iv ∧ Hid (FK frm to l w wr N J xs ks pf rest k p2))
    case atStart => exact ⟨k0, _, pre, rfl, Nat.le_refl _, (by show _ = _; rfl), (by first | rfl | go_num), HX.out.1, HX.out.2, HJz.out, HBz.out⟩
    case round =>
      obtain ⟨k, iv, p2, Hk, hkk, Hiv, rfl, HR⟩ := hrel
      clear HBz HJz HX
      have Hk' : k = gk := Hk.out
      subst Hk'
      cases k with
      | zero =>
        obtain rfl : iv = -1 := by have := Hiv.out; omega
        have HE1 : Hid (FallR frm N J Jx xs pf rest w wr true) := by
          have h1 := HR.out.eq
          have h2 := HR.out.pf
          simp at h1 h2
          subst h2
          exact ⟨HR.out.bl, fun _ => ⟨HR.out.jj, h1⟩, fun h => by cases h⟩
        clear HR Hiv HN HE Hk
        go_wp2
        go_ret
        exact ⟨true, rfl, HE1.out⟩
      | succ k =>
        obtain rfl : iv = (k : Int) := by have := Hiv.out; omega
        have hkx : k < ks.length := by have := HE.out.2; omega
        have hi16 : (k : Int) < 16 := by omega
        obtain ⟨x, hx⟩ : ∃ x, ks[k]? = some x := ⟨_, List.getElem?_eq_getElem hkx⟩
        have HR2 : Hid (xs = p2 ++ dnto frm (fl to l x.2 ++ (((ks.take k).reverse.flatMap fun p => fl to l p.2) ++ rest)) ∧ (p2 ++ fl to l x.2) ++ ((ks.take k).reverse.flatMap fun p => fl to l p.2) = pf ∧ J p2 wr ∧ Kp N w wr) := by
          have h1 := HR.out.eq
          have h2 := HR.out.pf
          rw [rev_take hx, List.flatMap_cons] at h1 h2
          exact ⟨by rw [h1, List.append_assoc], by rw [← h2, List.append_assoc], HR.out.jj, HR.out.bl⟩
        have hNr := HN.out wr HR.out.bl
        have HC : Hid (wr.rangeAt b (2 + k * 3) (slC (sK x))) := hNr.rows k (sK x) (by rw [List.getElem?_map, hx]; rfl)
        have c0 : wr.cell? ⟨b, 0, none⟩ = some (.int .i64 lv) := hNr.level
        have hbl : b < wr.heap.size := hNr.lt
        have HKF : Hid (∀ W, Below wr.heap.size wr W → Calls Try.prog 40 #[.pointer (some ⟨x.2.bk, 0, none⟩), .string frm, .string to, .func (.yield lp) #[] #[]] W fun e w' => ∃ c : Bool, e = .returned (.bool c) ∧ Hid (FallR frm N J Jx xs (p2 ++ fl to l x.2) (((ks.take k).reverse.flatMap fun p => fl to l p.2) ++ rest) W w' c)) := fun W g =>
          HE.out.1 W k x p2 hx (HR.out.bl.trans (Kp.of_below g)) (HJ.out.1 _ _ _ HR.out.jj (by_below g _)) HR2.out.1
        clear HR hNr hx Hiv Hk
        obtain ⟨kb, Hkb⟩ : ∃ kb, Hid (x.2.bk = kb) := ⟨_, rfl⟩
        rw [Hkb.out] at HKF
        go_wp2_with (first
          | (refine ld_w (by rfl) 60 (.tmp 34) rfl b (2 + k * 3) rfl (slC (sK x)) _ HC.out Try.underlying60 rfl (sSl (sK x)) ?_)
          | (refine al_zero rfl 60 rfl (slC z0) zSl ?_))
        intro g w4 l4 B4 G4
        go_wp2_with (refine st_all rfl 60 (.tmp 11) (.tmp 35) rfl g 60 (slC z0) (slC (sK x)) rfl rfl B4 rfl (sSl (sK x)) (slC_one _) ?_)
        intro w5 B5 G5
        have HB5 : Hid (Below wr.heap.size wr w5) := ((Below.refl wr.heap.size wr).grown G4 (Nat.le_refl _) (by simp)).grown G5 G4.size (fun k e => by injection e with e; omega)
        have d0 : w5.cell? ⟨b, 0, none⟩ = some (.int .i64 lv) := (HB5.out.cell (p := ⟨b, 0, none⟩) hbl).trans c0
        have d2 : w5.cell? ⟨g, 2, none⟩ = some (.pointer (some ⟨kb, 0, none⟩)) := by rw [← Hkb.out]; exact B5.cell 2
        have K := HKF.out w5 HB5.out
        have HI5 : Hid (Kp N w w5) := HR2.out.2.2.2.trans (Kp.of_below HB5.out)
        clear B4 G4 B5 G5 HC l4 c0 hbl HKF
        go_wp2_with fail
        refine K.mono ?_
        clear K d0 d2
        rintro e w6 ⟨c, rfl, H6⟩
        cases c
        · have HE1 : Hid (FallR frm N J Jx xs pf rest w w6 false) := ⟨HI5.out.trans H6.out.bl, (fun h => by cases h), fun _ => H6.out.no rfl⟩
          clear H6 HI5 HR2 HB5 HE HN
          go_wp2
          go_ret
          exact ⟨false, rfl, HE1.out⟩
        · have HE1 : Hid (FK frm to l w w6 N J xs ks pf rest k (p2 ++ fl to l x.2)) := ⟨(H6.out.yes rfl).2, HR2.out.2.1, (H6.out.yes rfl).1, HI5.out.trans H6.out.bl⟩
          have hk1 : k ≤ k0 := by omega
          clear H6 HI5 HR2 HB5 hkk
          go_wp2
          go_roundg k
          case measure => omega
          case rel => exact ⟨k, _, p2 ++ fl to l x.2, rfl, hk1, (by show _ = _; rfl), (by first | rfl | go_num), HE1.out⟩
theorem fall_any (frm to : ByteArray) (N : Nat → Prop) (r lp : Nat) (J Jx : List E → World → Prop) (xs : List E) (hJ : Abid r J) (hJx : Abid r Jx)
    (hY : ∀ k pre x W1, J pre W1 → (∃ post, xs = pre ++ x :: post) → RoundT k lp N J Jx pre x W1) : ∀ l, FallC frm to N r lp J Jx xs l
  | 0 => fall_leaf frm to N r lp J Jx xs hJ hJx hY
  | l + 1 => fall_node frm to N r lp J Jx xs hJ l (fall_any frm to N r lp J Jx xs hJ hJx hY l)
/-- fall as the closure that read calls. -/
theorem fall_clo (m l : Nat) (t : B) (rd : Int) (frm to : ByteArray) (N : Nat → Prop) (r lp b4 b5 b6 : Nat) (J Jx : List E → World → Prop) (w : World) (hM : Mem w l t none rd) (ho : Ok l t) (hN : ∀ x ∈ fps l t, N x)
    (hsz : ∀ e ∈ ents l t, e.1.size ≤ 281474976710656) (hJ : Abid r J) (hJx : Abid r Jx) (xs : List E) (hxs : xs = dnto frm (fl to l t))
    (hY : ∀ k pre x W1, J pre W1 → (∃ post, xs = pre ++ x :: post) → RoundT k lp N J Jx pre x W1) (h0 : J [] w)
    (c4 : w.cell? ⟨b4, 0, none⟩ = some (.string frm)) (c5 : w.cell? ⟨b5, 0, none⟩ = some (.string to)) (c6 : w.cell? ⟨b6, 0, none⟩ = some (.func (.yield lp) #[] #[])) :
    Calls Try.prog 39 #[.pointer (some ⟨t.bk, 0, none⟩), .pointer (some ⟨b4, 0, none⟩), .pointer (some ⟨b5, 0, none⟩), .pointer (some ⟨b6, 0, none⟩)] w fun e w' => e = .returned (.tuple #[]) ∧ Hid (Kp N w w' ∧ (J xs w' ∨ ∃ pre x post, xs = pre ++ x :: post ∧ Jx (pre ++ [x]) w')) := by
  have K := fall_any frm to N r lp J Jx xs hJ hJx hY l t none rd w [] [] hM ho hN hsz (by rw [hxs]; simp) h0
  have HX : Hid (xs = dnto frm (fl to l t)) := hxs
  clear hM ho hN hsz hJ hJx hxs hY h0
  obtain ⟨F, HF⟩ : ∃ F, Hid (fl to l t = F) := ⟨_, rfl⟩
  rw [HF.out] at K HX
  go_enter Try.func39, Try.ntmps39
  go_wp2_with fail
  refine K.mono ?_
  rintro e w' ⟨c, rfl, H⟩
  have HE : Hid (Kp N w w' ∧ (J xs w' ∨ ∃ pre x post, xs = pre ++ x :: post ∧ Jx (pre ++ [x]) w')) := by
    refine ⟨H.out.bl, ?_⟩
    cases c with
    | false => exact H.out.no rfl
    | true =>
      obtain ⟨h1, h2⟩ := H.out.yes rfl
      rw [dnto_nil, List.append_nil] at h2
      exact .inl (by rw [h2]; exact h1)
  clear K H
  go_wp2
  go_end0
  exact ⟨rfl, HE.out⟩
#print axioms fall_clo
end Go.Proofs.Yteokjfpppmnebaa
