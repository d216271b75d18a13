/-
  The walk of DiskNames.
-/
import Derived.Test.YtifeocedjomkmaaLst
import Derived.Test.YtifeocedjomkmaaKl
namespace Go.Proofs.Ytifeocedjomkmaa
open Go.RowKit Go.Maps Go.Sort Go.Shelf
theorem gx : [(⟨#[120]⟩ : ByteArray)].any bad = false := rfl
theorem gy : [(⟨#[121]⟩ : ByteArray)].any bad = false := rfl
theorem gxy : [(⟨#[120]⟩ : ByteArray), ⟨#[121]⟩].any bad = false := rfl
theorem gxz : [(⟨#[120]⟩ : ByteArray), ⟨#[122]⟩].any bad = false := rfl
theorem n1 (l : List Nat) (h : l.length ≤ 8000) : aDo [⟨#[120]⟩] (aExt 1048576 [120] l) ⟨1048576, -1, []⟩ = (0, ⟨1048576, -1, [([120], ⟨l, 0⟩)]⟩) := by
  have h1 : ¬ ((l.length : Int) > 1048576 - (total [] : Int) ∨ (get ([] : List (Nm × Fl)) [120] = none ∧ 4096 ≤ ([] : List (Nm × Fl)).length)) := by
    simp only [total, List.map_nil, List.sum_nil, List.length_nil]
    omega
  simp only [aDo, gx, aExt, if_neg h1]
  simp [get, ins, fuseAfter]
theorem n2 (l : List Nat) (k : Nat) : aDo [⟨#[120]⟩] (aSync [120]) ⟨1048576, -1, [([120], ⟨l, k⟩)]⟩ = (0, ⟨1048576, -1, [([120], ⟨l, l.length⟩)]⟩) := by
  simp only [aDo, gx]
  simp [aSync, get, fupd, fuseAfter]
theorem n3 (l m : List Nat) (k : Nat) (h : l.length + m.length ≤ 8000) : aDo [⟨#[120]⟩] (aExt 1048576 [120] m) ⟨1048576, -1, [([120], ⟨l, k⟩)]⟩ = (0, ⟨1048576, -1, [([120], ⟨l ++ m, k⟩)]⟩) := by
  have h1 : ¬ ((m.length : Int) > 1048576 - (total [([120], ⟨l, k⟩)] : Int) ∨ (get [(([120] : Nm), (⟨l, k⟩ : Fl))] [120] = none ∧ 4096 ≤ [(([120] : Nm), (⟨l, k⟩ : Fl))].length)) := by
    simp only [total, List.map_cons, List.map_nil, List.sum_cons, List.sum_nil, List.length_cons, List.length_nil]
    omega
  simp only [aDo, gx, aExt, if_neg h1]
  simp [get, fupd, fuseAfter]
theorem n4 (l m : List Nat) (k : Nat) (h : l.length + m.length ≤ 8000) : aDo [⟨#[121]⟩] (aExt 1048576 [121] m) ⟨1048576, -1, [([120], ⟨l, k⟩)]⟩ = (0, ⟨1048576, -1, [([120], ⟨l, k⟩), ([121], ⟨m, 0⟩)]⟩) := by
  have h1 : ¬ ((m.length : Int) > 1048576 - (total [([120], ⟨l, k⟩)] : Int) ∨ (get [(([120] : Nm), (⟨l, k⟩ : Fl))] [121] = none ∧ 4096 ≤ [(([120] : Nm), (⟨l, k⟩ : Fl))].length)) := by
    simp only [total, List.map_cons, List.map_nil, List.sum_cons, List.sum_nil, List.length_cons, List.length_nil]
    omega
  simp only [aDo, gy, aExt, if_neg h1]
  simp [get, ins, bytesBefore, fuseAfter]
theorem n5 (l m : List Nat) (k : Nat) : aDo [⟨#[120]⟩] (aSync [120]) ⟨1048576, -1, [([120], ⟨l, k⟩), ([121], ⟨m, 0⟩)]⟩ = (0, ⟨1048576, -1, [([120], ⟨l, l.length⟩), ([121], ⟨m, 0⟩)]⟩) := by
  simp only [aDo, gx]
  simp [aSync, get, fupd, fuseAfter]
theorem n6 (l m : List Nat) (k : Nat) : aDo [⟨#[120]⟩, ⟨#[121]⟩] (aRename [120] [121]) ⟨1048576, -1, [([120], ⟨l, k⟩), ([121], ⟨m, 0⟩)]⟩ = (0, ⟨1048576, -1, [([121], ⟨l, k⟩)]⟩) := by
  simp only [aDo, gxy]
  simp [aRename, get, del, ins, fuseAfter]
theorem n7 (l : List Nat) (k : Nat) : aDo [⟨#[120]⟩, ⟨#[122]⟩] (aRename [120] [122]) ⟨1048576, -1, [([121], ⟨l, k⟩)]⟩ = (7, ⟨1048576, -1, [([121], ⟨l, k⟩)]⟩) := by
  simp only [aDo, gxz]
  simp [aRename, get, fuseAfter]
theorem n8 (l : List Nat) (k : Nat) : get (aCrash 0 [([121], ⟨l, k⟩)]) [121] = some ⟨l.take k, k⟩ := by
  simp [aCrash, spareF, get]
theorem Mine.rename {w0 w : World} {bd : Nat} {S : Nat → Prop} {a a' : Ab} {err : Int} (h : Mine w0 w bd S a) (s t : ByteArray) (e : aDo [s, t] (aRename s.data.toList t.data.toList) a = (err, a')) :
    Calls Try.prog 18 #[.pointer (some ⟨bd, 0, none⟩), .string s, .string t] w fun e w' => e = .returned (.int .i64 err) ∧ ∃ S', Mine w0 w' bd S' a' ∧ Went w w' S S' := by
  refine (rename_disk h.disk s t).mono ?_
  rintro e' w' ⟨rfl, S', d, g⟩
  rw [e] at d ⊢
  exact ⟨rfl, S', h.went d g, g⟩
theorem Mine.src {w0 w : World} {bd : Nat} {S : Nat → Prop} {a : Ab} (h : Mine w0 w bd S a) {x : Option Addr} {c : Nat} {l : List Nat} (hb : Byt w0 x l) (hn : x = none → c = 0) (ho : Oct l) : Src w S x c l := by
  refine ⟨hb.below h.below, hn, fun b off e hl hS => ?_, ho⟩
  rcases hb with e' | ⟨b', off', e', hc⟩
  · exact hl e'
  · rw [e] at e'
    injection e' with e'
    injection e' with e1
    subst e1
    have h1 := h.base _ hS
    have : 0 < l.length := by
      cases l with
      | nil => exact absurd rfl hl
      | cons _ _ => simp
    have h2 := cell_lt (hc 0 this)
    omega
theorem Mine.list_one {w0 w : World} {bd : Nat} {S : Nat → Prop} {a : Ab} (h : Mine w0 w bd S a) (nm : ByteArray) (e : a.fs.map (·.1) = [nm.data.toList]) :
    Calls Try.prog 19 #[.pointer (some ⟨bd, 0, none⟩)] w fun e w' => ∃ x c, e = .returned (.slice x 1 c) ∧ Hid (Tx w' x [nm] ∧ Mine w0 w' bd S a) := by
  refine (list_disk h.disk).mono ?_
  rintro e' w' ⟨v, ss, rfl, hp⟩
  obtain ⟨p1, p2, p3, p4⟩ := hp.out
  rw [e] at p1
  have e1 : ss = [nm.data.toList] := List.perm_singleton.1 p1
  subst e1
  rw [List.mergeSort_singleton] at p2
  rcases p2 with ⟨_, ⟨_, h0⟩ | ⟨g, cap, cur, rfl, _, hh, hle, _, _, htk⟩⟩
  · simp at h0
  · refine ⟨_, cap, rfl, .inr ⟨g, 0, rfl, fun i s hs => ?_⟩, ⟨p3, h.base, h.below.trans (p4.below h.below.size h.base)⟩⟩
    have hi : i = 0 := by
      have := (List.getElem?_eq_some_iff.1 hs).1
      simpa using this
    subst hi
    simp at hs
    subst hs
    have h1 : cur[0]? = some (encStr nm.data.toList) := by
      have := congrArg (fun l => l[0]?) htk
      simpa using this
    have h2 : w'.cell? ⟨g, 0 + 0, none⟩ = cur[0]? := by simp [World.cell?, hh]
    exact h2.trans h1
theorem Mine.drewN {w0 w : World} {bd : Nat} {S : Nat → Prop} {a : Ab} (h : Mine w0 w bd S a) (q : Nat) : Mine w0 (w.drewN q) bd S a :=
  ⟨h.disk.keptBy (T := fun _ => False) ⟨rfl, rfl, rfl, Nat.le_refl _, fun _ _ _ => rfl⟩ (fun _ _ h => h), h.base, below_drewN h.below q⟩
theorem tx_lit (w : World) (ss : List ByteArray) : Tx (w.alloc (.cells (ss.map Value.string).toArray 9)) (some ⟨w.heap.size, 0, none⟩) ss := by
  refine .inr ⟨_, _, rfl, fun i s hs => ?_⟩
  rw [Nat.zero_add, World.cell?_alloc_new, List.getElem?_toArray, List.getElem?_map, hs]
  rfl
set_option maxHeartbeats 1000000 in
set_option maxRecDepth 100000 in
theorem names_walk (x1 x2 x3 : Option Addr) (c1 c2 c3 : Nat) (la lb lc : List Nat) (sy : Bool) (w : World) (b1 : Byt w x1 la) (b2 : Byt w x2 lb) (b3 : Byt w x3 lc) (o1 : Oct la) (o2 : Oct lb) (o3 : Oct lc) (e1 : x1 = none → c1 = 0) (e2 : x2 = none → c2 = 0) (e3 : x3 = none → c3 = 0)
    (s1 : la.length ≤ 140737488351232) (s2 : lb.length ≤ 140737488351232) (s3 : lc.length ≤ 140737488351232) :
    Calls Try.prog 7 #[.slice x1 la.length c1, .slice x2 lb.length c2, .slice x3 lc.length c3, .bool sy] w fun e w' => e = .returned (.bool true) ∧ Below w.heap.size w w' := by
  by_cases h8 : la.length + lb.length + lc.length ≤ 8000
  · have hlt : (la.length : Int) + (lb.length : Int) + (lc.length : Int) ≤ 8000 := by omega
    have HK : Hid (∀ W, Below w.heap.size w W → Calls Try.prog 8 #[] W fun e w' => e = .returned (.bool true) ∧ Below w.heap.size w w') := fun W hB => (known_any W).mono fun _ _ ⟨e, b⟩ => ⟨e, hB.trans (b.mono hB.size)⟩
    have HB : Hid (Byt w x1 la ∧ Byt w x2 lb ∧ Byt w x3 lc ∧ Oct la ∧ Oct lb ∧ Oct lc ∧ (x1 = none → c1 = 0) ∧ (x2 = none → c2 = 0) ∧ (x3 = none → c3 = 0)) := ⟨b1, b2, b3, o1, o2, o3, e1, e2, e3⟩
    have H8 : Hid (la.length + lb.length + lc.length ≤ 8000) := h8
    clear b1 b2 b3 o1 o2 o3 e1 e2 e3
    go_enter Try.func7, Try.ntmps7
    go_wp2_with fail
    refine (new_any 1048576 w (by decide) (by decide)).mono ?_
    rintro e w1 ⟨bd, S1, rfl, d1, q1, q2⟩
    have M1 : Hid (Mine w w1 bd S1 ⟨1048576, -1, []⟩) := ⟨d1, q1, q2⟩
    clear d1 q1 q2
    go_wp2_with fail
    refine (M1.out.append ⟨#[120]⟩ x1 c1 la (M1.out.src HB.out.1 HB.out.2.2.2.2.2.2.1 HB.out.2.2.2.1) (n1 la (by omega))).mono ?_
    rintro e w2 ⟨rfl, S2, m2, _⟩
    have M2 : Hid _ := m2
    clear m2 M1
    go_wp2_with fail
    refine (M2.out.sync ⟨#[120]⟩ (n2 la 0)).mono ?_
    rintro e w3 ⟨rfl, S3, m3, _⟩
    have M3 : Hid _ := m3
    clear m3 M2
    go_wp2_with fail
    refine (M3.out.append ⟨#[120]⟩ x2 c2 lb (M3.out.src HB.out.2.1 HB.out.2.2.2.2.2.2.2.1 HB.out.2.2.2.2.1) (n3 la lb _ (by omega))).mono ?_
    rintro e w4 ⟨rfl, S4, m4, _⟩
    have M4 : Hid _ := m4
    clear m4 M3
    go_wp2_with fail
    refine (M4.out.append ⟨#[121]⟩ x3 c3 lc (M4.out.src HB.out.2.2.1 HB.out.2.2.2.2.2.2.2.2 HB.out.2.2.2.2.2.1) (n4 (la ++ lb) lc _ (by rw [List.length_append]; omega))).mono ?_
    rintro e w5 ⟨rfl, S5, m5, _⟩
    have M5 : Hid _ := m5
    clear m5 M4
    cases sy
    · obtain ⟨w6, hw6⟩ : ∃ w6, w6 = w5 := ⟨_, rfl⟩
      have M6 : Hid (Mine w w5 bd S5 ⟨1048576, -1, [([120], ⟨la ++ lb, la.length⟩), ([121], ⟨lc, 0⟩)]⟩) := M5.out
      clear hw6 M5
      go_wp2_with fail
      refine (M6.out.rename ⟨#[120]⟩ ⟨#[121]⟩ (n6 (la ++ lb) lc la.length)).mono ?_
      rintro e w7 ⟨rfl, S7, m7, _⟩
      have M7 : Hid _ := m7
      clear m7 M6
      go_wp2_with fail
      refine (M7.out.list_one ⟨#[121]⟩ rfl).mono ?_
      rintro e w8 ⟨x, c, rfl, h8'⟩
      have T8 : Hid (Tx w8 x [⟨#[121]⟩]) := h8'.out.1
      have M8 : Hid (Mine w w8 bd S7 ⟨1048576, -1, [([121], ⟨la ++ lb, la.length⟩)]⟩) := h8'.out.2
      clear h8' M7
      go_wp2_with fail
      refine (texts_any x _ c _ [⟨#[121]⟩] (by decide) _ (T8.out.below ((Below.refl _ _).alloc (Nat.le_refl _) _)) (tx_lit w8 [⟨#[121]⟩])).mono ?_
      rintro e w9 ⟨rfl, q, hw9⟩
      have M9 : Hid (Mine w w9 bd S7 ⟨1048576, -1, [([121], ⟨la ++ lb, la.length⟩)]⟩) := by rw [hw9]; exact (M8.out.alloc _).drewN q
      clear hw9 T8 M8
      go_wp2_with fail
      refine (M9.out.rename ⟨#[120]⟩ ⟨#[122]⟩ (n7 (la ++ lb) la.length)).mono ?_
      rintro e w10 ⟨rfl, S10, m10, _⟩
      have M10 : Hid _ := m10
      clear m10 M9
      go_wp2_with fail
      refine (crash_disk M10.out.disk 0).mono ?_
      rintro e w11 ⟨rfl, S11, d11, g11⟩
      have M11 : Hid _ := M10.out.went d11 g11
      clear d11 g11 M10
      go_wp2_with fail
      refine (read_disk M11.out.disk ⟨#[121]⟩ (by decide)).mono ?_
      rintro e w12 ⟨v, err, rfl, t12, d12, k12⟩
      have e12 : get (aCrash (Int.toNat 0) [([121], ⟨la ++ lb, la.length⟩)]) [121] = some ⟨la, la.length⟩ := by
        have := n8 (la ++ lb) la.length
        rw [List.take_left] at this
        exact this
      obtain ⟨o12, rfl⟩ : Own w12 w11.heap.size v (la) ∧ err = 0 := by
        have t13 : Told w12 w11.heap.size v err (get (aCrash (Int.toNat 0) [([121], ⟨la ++ lb, la.length⟩)]) [121]) := t12
        rw [e12] at t13
        exact t13
      obtain ⟨p, pc, rfl, hbp, _, _⟩ := o12.src
      have B12 : Hid (Below w.heap.size w w12) := M11.out.below.trans (k12.below M11.out.below.size M11.out.base)
      have HP : Hid (Byt w12 p (la)) := hbp
      clear e12 d12 k12 o12 hbp M11
      have b0 : Hid (Below w12.heap.size w12 (w12.alloc (.cells #[] 5))) := (Below.refl _ _).alloc (Nat.le_refl _) _
      have HA : Hid (Byt (w12.alloc (.cells #[] 5)) x1 la) := (HB.out.1.below B12.out).below b0.out
      go_wp2_with (at_builtin; go_must (refine app_at rfl (.tmp 84) (.tmp 85) rfl w12.heap.size _ [] rfl (own_empty w12 _ (Nat.le_refl _)) x1 _ c1 la rfl rfl HA.out HB.out.2.2.2.2.2.2.1 (by simp only [List.length_nil]; omega) (by simp) ?_))
      intro v1 w13 o13 g13 loc13
      have B13 : Hid (Below w12.heap.size w12 w13) := below_app b0.out (by simp) (own_empty w12 _ (Nat.le_refl _)) g13
      obtain ⟨y, yc, rfl, hby, _, _⟩ := o13.src
      have HS : Hid (Calls Try.prog 14 #[.slice p la.length pc, .slice y la.length yc] w13 fun e w' => e = .returned (.bool true) ∧ Below w.heap.size w w') :=
        (same_any p y pc yc la (by omega) w13 (HP.out.below B13.out) hby HB.out.2.2.2.1).mono (by rintro e w' ⟨rfl, q, rfl⟩; exact ⟨rfl, below_drewN (B12.out.trans (B13.out.mono B12.out.size)) q⟩)
      clear o13 g13 loc13 hby HA b0 B13 HP HB
      go_wp2_with fail
      refine HS.out.mono ?_
      rintro e w15 ⟨rfl, hB1⟩
      go_wp2_with fail
      refine (HK.out _ hB1).mono ?_
      rintro e w16 ⟨rfl, hB⟩
      go_wp2
      go_ret
      exact ⟨rfl, hB⟩
    · go_wp2_with fail
      refine (M5.out.sync ⟨#[120]⟩ (n5 (la ++ lb) lc _)).mono ?_
      rintro e w6 ⟨rfl, S6, m6, _⟩
      have M6 : Hid (Mine w w6 bd S6 ⟨1048576, -1, [([120], ⟨la ++ lb, (la ++ lb).length⟩), ([121], ⟨lc, 0⟩)]⟩) := m6
      clear m6 M5
      go_wp2_with fail
      refine (M6.out.rename ⟨#[120]⟩ ⟨#[121]⟩ (n6 (la ++ lb) lc (la ++ lb).length)).mono ?_
      rintro e w7 ⟨rfl, S7, m7, _⟩
      have M7 : Hid _ := m7
      clear m7 M6
      go_wp2_with fail
      refine (M7.out.list_one ⟨#[121]⟩ rfl).mono ?_
      rintro e w8 ⟨x, c, rfl, h8'⟩
      have T8 : Hid (Tx w8 x [⟨#[121]⟩]) := h8'.out.1
      have M8 : Hid (Mine w w8 bd S7 ⟨1048576, -1, [([121], ⟨la ++ lb, (la ++ lb).length⟩)]⟩) := h8'.out.2
      clear h8' M7
      go_wp2_with fail
      refine (texts_any x _ c _ [⟨#[121]⟩] (by decide) _ (T8.out.below ((Below.refl _ _).alloc (Nat.le_refl _) _)) (tx_lit w8 [⟨#[121]⟩])).mono ?_
      rintro e w9 ⟨rfl, q, hw9⟩
      have M9 : Hid (Mine w w9 bd S7 ⟨1048576, -1, [([121], ⟨la ++ lb, (la ++ lb).length⟩)]⟩) := by rw [hw9]; exact (M8.out.alloc _).drewN q
      clear hw9 T8 M8
      go_wp2_with fail
      refine (M9.out.rename ⟨#[120]⟩ ⟨#[122]⟩ (n7 (la ++ lb) (la ++ lb).length)).mono ?_
      rintro e w10 ⟨rfl, S10, m10, _⟩
      have M10 : Hid _ := m10
      clear m10 M9
      go_wp2_with fail
      refine (crash_disk M10.out.disk 0).mono ?_
      rintro e w11 ⟨rfl, S11, d11, g11⟩
      have M11 : Hid _ := M10.out.went d11 g11
      clear d11 g11 M10
      go_wp2_with fail
      refine (read_disk M11.out.disk ⟨#[121]⟩ (by decide)).mono ?_
      rintro e w12 ⟨v, err, rfl, t12, d12, k12⟩
      have e12 : get (aCrash (Int.toNat 0) [([121], ⟨la ++ lb, (la ++ lb).length⟩)]) [121] = some ⟨la ++ lb, (la ++ lb).length⟩ := by
        have := n8 (la ++ lb) (la ++ lb).length
        rw [List.take_length] at this
        exact this
      obtain ⟨o12, rfl⟩ : Own w12 w11.heap.size v (la ++ lb) ∧ err = 0 := by
        have t13 : Told w12 w11.heap.size v err (get (aCrash (Int.toNat 0) [([121], ⟨la ++ lb, (la ++ lb).length⟩)]) [121]) := t12
        rw [e12] at t13
        exact t13
      obtain ⟨p, pc, rfl, hbp, _, _⟩ := o12.src
      have B12 : Hid (Below w.heap.size w w12) := M11.out.below.trans (k12.below M11.out.below.size M11.out.base)
      have HP : Hid (Byt w12 p (la ++ lb)) := hbp
      clear e12 d12 k12 o12 hbp M11
      have b0 : Hid (Below w12.heap.size w12 (w12.alloc (.cells #[] 5))) := (Below.refl _ _).alloc (Nat.le_refl _) _
      have HA : Hid (Byt (w12.alloc (.cells #[] 5)) x1 la) := (HB.out.1.below B12.out).below b0.out
      go_wp2_with (at_builtin; go_must (refine app_at rfl (.tmp 84) (.tmp 85) rfl w12.heap.size _ [] rfl (own_empty w12 _ (Nat.le_refl _)) x1 _ c1 la rfl rfl HA.out HB.out.2.2.2.2.2.2.1 (by simp only [List.length_nil]; omega) (by simp) ?_))
      intro v1 w13 o13 g13 loc13
      have B13 : Hid (Below w12.heap.size w12 w13) := below_app b0.out (by simp) (own_empty w12 _ (Nat.le_refl _)) g13
      have HO : Hid (Own w13 w12.heap.size v1 la) := o13
      have HA2 : Hid (Byt w13 x2 lb) := (HB.out.2.1.below B12.out).below B13.out
      clear o13 g13 loc13 HA b0
      go_wp2_with (at_builtin; go_must (refine app_at rfl (.tmp 88) (.tmp 89) rfl w12.heap.size _ la rfl HO.out x2 _ c2 lb rfl rfl HA2.out HB.out.2.2.2.2.2.2.2.1 (by omega) B13.out.size ?_))
      intro v2 w14 o14 g14 loc14
      have B14 : Hid (Below w12.heap.size w12 w14) := below_app B13.out B13.out.size HO.out g14
      obtain ⟨y, yc, rfl, hby, _, _⟩ := o14.src
      have HS : Hid (Calls Try.prog 14 #[.slice p (la ++ lb).length pc, .slice y (la ++ lb).length yc] w14 fun e w' => e = .returned (.bool true) ∧ Below w.heap.size w w') :=
        (same_any p y pc yc (la ++ lb) (by rw [List.length_append]; omega) w14 (HP.out.below B14.out) hby (by intro z hz; rcases List.mem_append.1 hz with h | h; exact HB.out.2.2.2.1 z h; exact HB.out.2.2.2.2.1 z h)).mono (by rintro e w' ⟨rfl, q, rfl⟩; exact ⟨rfl, below_drewN (B12.out.trans (B14.out.mono B12.out.size)) q⟩)
      clear o14 g14 loc14 hby HO HA2 B13 B14 HP HB
      simp only [List.length_append] at HS ⊢
      generalize la.length + lb.length = nn at *
      go_wp2_with fail
      refine HS.out.mono ?_
      rintro e w15 ⟨rfl, hB1⟩
      go_wp2_with fail
      refine (HK.out _ hB1).mono ?_
      rintro e w16 ⟨rfl, hB⟩
      go_wp2
      go_ret
      exact ⟨rfl, hB⟩
  · have h8' : (8000 : Int) < (la.length : Int) + (lb.length : Int) + (lc.length : Int) := by omega
    clear h8 b1 b2 b3
    go_enter Try.func7, Try.ntmps7
    go_wp2
    go_ret
    exact ⟨rfl, Below.refl _ _⟩
theorem row_len {w : World} {a : Option Addr} {len cap : Nat} {zs : List Int} (h : IsRow .u8 w a len cap zs) : len ≤ cap := by
  rcases h with ⟨_, rfl, rfl, _⟩ | ⟨_, _, h, _⟩
  · exact Nat.le_refl _
  · exact h
theorem names_rows (a0 a1 a2 : Option Addr) (l0 l1 l2 c0 c1 c2 : Nat) (z0 z1 z2 : List Int) (sy : Bool) (w : World) (h0 : IsRow .u8 w a0 l0 c0 z0) (h1 : IsRow .u8 w a1 l1 c1 z1) (h2 : IsRow .u8 w a2 l2 c2 z2) (s0 : c0 ≤ 140737488351232) (s1 : c1 ≤ 140737488351232) (s2 : c2 ≤ 140737488351232) :
    Calls Try.prog 7 #[.slice a0 l0 c0, .slice a1 l1 c1, .slice a2 l2 c2, .bool sy] w fun e w' => e = .returned (.bool true) ∧ Below w.heap.size w w' := by
  have e0 := row_len h0
  have e1 := row_len h1
  have e2 := row_len h2
  obtain ⟨la, rfl, b0, o0, n0, _⟩ := row_byt h0
  obtain ⟨lb, rfl, b1, o1, n1, _⟩ := row_byt h1
  obtain ⟨lc, rfl, b2, o2, n2, _⟩ := row_byt h2
  exact names_walk a0 a1 a2 c0 c1 c2 la lb lc sy w b0 b1 b2 o0 o1 o2 n0 n1 n2 (by omega) (by omega) (by omega)
#print axioms names_walk
end Go.Proofs.Ytifeocedjomkmaa
