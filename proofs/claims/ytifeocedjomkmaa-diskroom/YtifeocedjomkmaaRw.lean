/-
  The walk of DiskRoom.
-/
import Derived.Test.YtifeocedjomkmaaRz
namespace Go.Proofs.Ytifeocedjomkmaa
open Go.RowKit
theorem conv_name (W : World) (r : Int) : (convert 23 9 (.slice (some ⟨W.heap.size, 0, none⟩) 2 2)).run Try.prog (W.alloc (.cells #[.int .u8 102, .int .u8 r] 5)) = .ok (.string (strOfNums [102, r])) (W.alloc (.cells #[.int .u8 102, .int .u8 r] 5)) := by
  refine run_convert_bytes_arg (P := Try.prog) _ 23 5 Try.underlying23 Try.underlying5 W.heap.size 0 2 2 [102, r] rfl (fun i hi => ?_) 9 Try.underlying9
  rw [Nat.zero_add, World.cell?_alloc_new]
  match i, hi with
  | 0, _ => rfl
  | 1, _ => rfl
theorem good_name (r : Int) : [strOfNums [102, r]].any bad = false := by
  have : (strOfNums [102, r]).size = 2 := by rw [strOfNums_size]; rfl
  simp [bad, this]
theorem old_len {room : Int} {fs : List (Nm × Fl)} (h : FineF room fs) {nm : Nm} : ((oldOf (get fs nm)).length : Int) ≤ room := by
  have hu := h.used
  cases hg : get fs nm with
  | none => simp only [oldOf, List.length_nil]; omega
  | some x =>
    have hx := mem_of_get hg
    have : x.b.length ≤ total fs := by
      clear hg hu
      induction fs with
      | nil => cases hx
      | cons p r ih =>
        unfold total
        rw [List.map_cons, List.sum_cons]
        rcases List.mem_cons.1 hx with e | e
        · subst e; simp only; omega
        · have hle : ∀ (r : List (Nm × Fl)), (nm, x) ∈ r → x.b.length ≤ (r.map fun p => p.2.b.length).sum := by
            intro r
            induction r with
            | nil => intro h; cases h
            | cons q t ih2 =>
              intro h
              rw [List.map_cons, List.sum_cons]
              rcases List.mem_cons.1 h with e | e
              · subst e; simp only; omega
              · have := ih2 e; omega
          have := hle r e
          omega
    simp only [oldOf]
    omega
theorem own_byt {w : World} {base : Nat} {x : Option Addr} {c n : Nat} {l : List Nat} (h : Own w base (.slice x n c) l) : Byt w x l := by
  obtain ⟨a, c', e, hb, _⟩ := h.src
  injection e with e
  subst e
  exact hb
theorem q_region {P : Program} {C : World → Prop} {id : Nat} {Q : Exit → Act → World → Prop} {a : Act} {w : World} {l : List Oper} (hm : P.follows .mixedOrders = true) (hB : Region.lexB .any l.toArray = true) (hC : C { w with drawn := w.drawn + 1 })
    (h : wpQuiet P l.toArray C (fun a' => ∀ w', C w' → Q .normal a' w') l a) : (Code.region id l.toArray true).wp P Q a w :=
  wp_region_quiet hm hB hC (by simpa using h)
theorem oct_old {room : Int} {fs : List (Nm × Fl)} (h : FineF room fs) {nm : Nm} : Oct (oldOf (get fs nm)) := by
  cases hg : get fs nm with
  | none => intro z hz; cases hz
  | some x => exact h.oct _ (mem_of_get hg)
theorem Mine.src' {w0 w : World} {bd : Nat} {S : Nat → Prop} {a : Ab} (h : Mine w0 w bd S a) {x : Option Addr} {c : Nat} {l : List Nat} (hb : Byt w0 x l) (hn : x = none → c = 0) (ho : Oct l) : Src w S x c l := by
  refine ⟨hb.below h.below, hn, fun b off e hl hS => ?_, ho⟩
  rcases hb with e' | ⟨b', off', e', hc⟩
  · exact hl e'
  · rw [e] at e'
    injection e' with e'
    injection e' with e1
    subst e1
    have h1 := h.base _ hS
    have : 0 < l.length := by
      cases l with
      | nil => exact absurd rfl hl
      | cons _ _ => simp
    have h2 := cell_lt (hc 0 this)
    omega
set_option maxHeartbeats 8000000 in
set_option maxRecDepth 100000 in
theorem room_walk (room : Int) (a0 : Option Addr) (cap : Nat) (rs : List Rw) (w : World) (hrs : Rws w a0 rs) (hlen : rs.length * 24 ≤ 140737488351232) :
    Calls Try.prog 6 #[.int .i64 room, .slice a0 rs.length cap] w fun e w' => e = .returned (.bool true) ∧ Below w.heap.size w w' := by
  have HR : Hid (Rws w a0 rs) := hrs
  have HN : Hid (rs.length * 24 ≤ 140737488351232) := hlen
  have HK : Hid (∀ W, Below w.heap.size w W → Calls Try.prog 8 #[] W fun e w' => e = .returned (.bool true) ∧ Below w.heap.size w w') := fun W hB => (known_any W).mono fun _ _ ⟨e, b⟩ => ⟨e, hB.trans (b.mono hB.size)⟩
  clear hrs hlen
  go_enter Try.func6, Try.ntmps6
  go_wp2
  go_loopw [5, 6] (fun n i wr => ∃ k : Nat, k ≤ rs.length ∧ i = .int .i64 k ∧ n = .int .i64 (wt (rs.take k) : Nat) ∧ wr = w ∧ wt (rs.take k) ≤ 140737488360000) (fun _ i _ => rs.length - (intOf i).toNat)
  case atStart => exact ⟨0, by omega, rfl, by simp [wt], rfl, by simp [wt]⟩
  case round =>
    obtain ⟨k, hk, rfl, rfl, hwr, hw8⟩ := hrel
    have hwr' := hwr.symm
    subst hwr'
    clear hwr
    by_cases hlt : k < rs.length
    · by_cases h8 : wt (rs.take k) ≤ 8000
      · obtain ⟨b, off, rfl, hr⟩ : ∃ b off, a0 = some ⟨b, off, none⟩ ∧ ∀ i r, rs[i]? = some r → w.cell? ⟨b, off + i, none⟩ = some (.slice r.1 r.2.2.length r.2.1) ∧ RowAt w r := by
          rcases HR.out with h | h
          · subst h; simp at hlt
          · exact h
        obtain ⟨hc, hra⟩ := hr k _ (List.getElem?_eq_getElem hlt)
        have hlr := hra.len
        have HW : Hid (wt (rs.take (k + 1)) = wt (rs.take k) + (1 + rs[k].2.2.length)) := wt_snoc rs k hlt
        clear hr hra
        generalize rs[k].2.2.length = lr at *
        generalize rs[k].1 = x1 at *
        generalize rs[k].2.1 = x2 at *
        generalize wt (rs.take k) = t at *
        have HN' := HN.out
        go_wp2
        go_roundw
        case rel => exact ⟨k + 1, by omega, by go_num, by rw [HW.out]; go_num, by simp, by rw [HW.out]; omega⟩
        case measure => simp [intOf]; omega
      · generalize wt (rs.take k) = t at *
        go_wp2_with (go_at_call 8; refine (HK.out _ (Below.refl _ _)).mono ?_; rintro e w' ⟨rfl, hB⟩)
        go_ret
        exact ⟨rfl, hB⟩
    · obtain rfl : k = rs.length := by omega
      rw [List.take_length] at hw8 ⊢
      by_cases h8 : wt rs ≤ 8000 ∧ 0 ≤ room ∧ room ≤ 5000 ∧ rs.length ≤ 60
      · obtain ⟨h8, hn0, hn1, hl60⟩ := h8
        have hcl := cat_le rs
        have HC : Hid ((cat rs).length + rs.length ≤ 8000) := by show _ ≤ _; omega
        clear hcl
        generalize wt rs = t at *
        go_wp2_with fail
        refine (new_any room w hn0 (by omega)).mono ?_
        rintro e w1 ⟨bd, S1, rfl, d1, n1, b1⟩
        have H1 : Hid (Mine w w1 bd S1 ⟨room, -1, []⟩) := ⟨d1, n1, b1⟩
        clear d1 n1 b1 hw8
        go_wp2
        go_loopw [9] (fun i wr => ∃ (k : Nat) (S : Nat → Prop) (a : Ab), k ≤ rs.length ∧ i = .int .i64 k ∧ Mine w wr bd S a ∧ a.room = room ∧ a.fuse = -1 ∧ a.fs.length ≤ k) (fun i _ => rs.length - (intOf i).toNat)
        case atStart => exact ⟨0, S1, _, by omega, rfl, H1.out, rfl, rfl, by simp⟩
        case round =>
          obtain ⟨k, S, a, hk, rfl, mi, ar, af, al⟩ := hrel
          have M0 : Hid (Mine w wr bd S a) := mi
          clear mi H1
          by_cases hlt : k < rs.length
          · obtain ⟨b, off, rfl, hr⟩ : ∃ b off, a0 = some ⟨b, off, none⟩ ∧ ∀ i r, rs[i]? = some r → w.cell? ⟨b, off + i, none⟩ = some (.slice r.1 r.2.2.length r.2.1) ∧ RowAt w r := by
              rcases HR.out with h | h
              · subst h; simp at hlt
              · exact h
            obtain ⟨hc0, hra⟩ := hr k _ (List.getElem?_eq_getElem hlt)
            have hcs := cat_snoc rs k hlt
            have hct := cat_take rs (k + 1)
            rw [hcs, List.length_append] at hct
            have HL : Hid (rs[k].2.2.length ≤ 8000) := by have := HC.out; show _ ≤ _; omega
            have HW : Hid (∀ W, Below w.heap.size w W → W.cell? ⟨b, off + k, none⟩ = some (.slice rs[k].1 rs[k].2.2.length rs[k].2.1)) := fun W hB => (hB.cell (p := ⟨b, off + k, none⟩) (cell_lt hc0)).trans hc0
            have HA : Hid (RowAt w rs[k]) := hra
            clear hr hra hc0 hct hcs
            generalize rs[k] = row at *
            obtain ⟨x1, x2, l⟩ := row
            obtain ⟨r, hr3⟩ : ∃ r : Nat, r = k % 3 := ⟨_, rfl⟩
            have hmod : Int.tmod (k : Int) 3 = (r : Int) := by rw [hr3]; exact Int.ofNat_tmod k 3
            have hr4 : r < 3 := by omega
            have hcv := conv_name
            have hw8 : IntKind.u8.wrap (r : Int) = (r : Int) := by simp [IntKind.wrap_u8]; omega
            clear hr3
            have hgood := good_name (r : Int)
            have hsz : (strOfNums [102, (r : Int)]).size ≤ maxLen := by rw [strOfNums_size]; unfold maxLen; simp
            go_wp2_with fail
            generalize strOfNums [102, (r : Int)] = s at *
            refine ((M0.out.alloc _).readC s hsz).mono ?_
            clear hcv hmod hw8
            rintro e w2 ⟨v1, err1, rfl, h2⟩
            obtain ⟨m2, o2, q2, _⟩ := h2.out
            obtain ⟨p1, c1, rfl, _, n1, _⟩ := o2.src
            have U2 : Hid (Calls Try.prog 20 #[.pointer (some ⟨bd, 0, none⟩)] w2 fun e w3 => e = .returned (.int .i64 (total a.fs)) ∧ Hid (Mine w w3 bd S a ∧ Own w3 w.heap.size (.slice p1 (oldOf (get a.fs s.data.toList)).length c1) (oldOf (get a.fs s.data.toList)))) := by
              refine (used_disk m2.disk).mono ?_
              rintro e w3 ⟨rfl, d3, k3⟩
              exact ⟨rfl, ⟨d3, m2.base, m2.below.trans (k3.below m2.below.size m2.base)⟩, o2.keptBy k3 q2⟩
            have Q2 : Hid (∀ g, (Value.slice p1 (oldOf (get a.fs s.data.toList)).length c1).ownBlock = some g → ¬ S g) := q2
            clear h2 m2 o2 q2
            go_wp2_with fail
            refine U2.out.mono ?_
            clear U2
            rintro e w3 ⟨rfl, h3⟩
            obtain ⟨m3, o3⟩ := h3.out
            have q2 := Q2.out
            have hrow3 := HW.out _ m3.below
            have hsrc : Src w3 S x1 x2 l := m3.src' HA.out.byt HA.out.nil HA.out.oct
            have fin := m3.disk.1.fs
            clear h3 Q2
            by_cases hfit : (total a.fs : Int) + (l.length : Int) ≤ room
            · obtain ⟨A', eA, rA, fA, lA, gA⟩ := room_fits a s l k hgood af al (by omega) (by rw [ar]; exact hfit)
              have AP := m3.append s x1 x2 l hsrc eA
              clear m3 hsrc
              go_wp2_with fail
              refine AP.mono ?_
              clear AP hrow3
              rintro e w4 ⟨rfl, S4, m4, g4⟩
              obtain ⟨o4, q4⟩ := own_went o3 g4 q2
              have R4 := m4.readC s hsz
              have H4 : Hid (Mine w w4 bd S4 A' ∧ Own w4 w.heap.size (.slice p1 (oldOf (get a.fs s.data.toList)).length c1) (oldOf (get a.fs s.data.toList)) ∧ (∀ g, (Value.slice p1 (oldOf (get a.fs s.data.toList)).length c1).ownBlock = some g → ¬ S4 g)) := ⟨m4, o4, q4⟩
              clear m4 g4 o4 q4 o3 q2
              go_wp2_with fail
              refine R4.mono ?_
              clear R4
              rintro e w5 ⟨v4, err4, rfl, h5⟩
              obtain ⟨m5, o5, q5, k5⟩ := h5.out
              have H5 : Hid (Cx w w5 bd S4 A' (.slice p1 (oldOf (get a.fs s.data.toList)).length c1) (oldOf (get a.fs s.data.toList)) v4 (oldOf (get a.fs s.data.toList) ++ l)) := ⟨m5, H4.out.2.1.keptBy k5 H4.out.2.2, by rw [← gA]; exact o5, H4.out.2.2, q5⟩
              obtain ⟨p4, c4, rfl, by4, n4, _⟩ := H5.out.o4.src
              have hrow5 := HW.out _ m5.below
              have OC : Hid (Oct (oldOf (get a.fs s.data.toList) ++ l)) := (by intro z hz; rcases List.mem_append.1 hz with h | h; exact oct_old fin z h; exact HA.out.oct z h)
              clear h5 m5 o5 q5 k5 H4 by4
              have hb1 : (total a.fs : Int) ≤ 5000 := by have := fin.used; rw [ar] at this; omega
              have hb2 : (l.length : Int) ≤ 8000 := by have := HL.out; omega
              have hdec : decide ((total a.fs : Int) + (l.length : Int) ≤ room) = true := by simpa using hfit
              go_wp2_with fail
              have hnA : (total A'.fs : Int) ≤ room := by have := H5.out.mine.disk.1.fs.used; rw [rA, ar] at this; exact this
              have hd2 : decide (room < (total A'.fs : Int)) = false := by simpa using hnA
              have hbl := old_len fin (nm := s.data.toList)
              rw [ar] at hbl
              have HFIN : Hid (A'.room = room ∧ A'.fuse = -1 ∧ A'.fs.length ≤ k + 1) := ⟨by rw [rA]; exact ar, fA, lA⟩
              clear gA eA fin rA fA lA
              generalize oldOf (get a.fs s.data.toList) = L1 at *
              obtain ⟨C, hCd⟩ : ∃ C : World → Prop, C = fun W => Cx w W bd S4 A' (.slice p1 L1.length c1) L1 (.slice p4 (L1 ++ l).length c4) (L1 ++ l) := ⟨_, rfl⟩
              have k1 : Hid (∀ W, C W → Calls Try.prog 20 #[.pointer (some ⟨bd, 0, none⟩)] W fun e w' => e = .returned (.int .i64 (total A'.fs)) ∧ C w') := fun W h => by
                rw [hCd] at h ⊢
                refine (Cx.used h).mono ?_
                rintro e w' ⟨rfl, q⟩
                exact ⟨rfl, q.out⟩
              have kc : Hid (∀ W, C W → W.cell? ⟨b, off + k, none⟩ = some (.slice x1 l.length x2)) := fun W h => by
                rw [hCd] at h
                exact HW.out _ (Cx.mine h).below
              have kb : Hid (∀ W W', C W → Below W.heap.size W W' → C W') := fun W W' h hb => by
                rw [hCd] at h ⊢
                exact Cx.below h hb
              have ko : Hid (∀ W, C W → Byt W p1 L1) := fun W h => by
                rw [hCd] at h
                exact own_byt (Cx.o1 h)
              have kl : Hid (∀ W, C W → Byt W x1 l) := fun W h => by
                rw [hCd] at h
                exact HA.out.byt.below (Cx.mine h).below
              have kn : Hid (x1 = none → x2 = 0) := HA.out.nil
              have ks : Hid (∀ W y c, C W → Byt W y (L1 ++ l) → Calls Try.prog 14 #[.slice p4 (L1.length + l.length) c4, .slice y (L1 ++ l).length c] W fun e w' => e = .returned (.bool true) ∧ C w') := fun W y c h hy => by
                rw [hCd] at h ⊢
                have := Cx.same h (c := c4) (d := c) (own_byt (Cx.o4 h)) hy OC.out (by rw [List.length_append]; omega)
                rw [← List.length_append]
                refine this.mono ?_
                rintro e w' ⟨rfl, q⟩
                exact ⟨rfl, q.out⟩
              have z0 : Hid (C { w5 with drawn := w5.drawn + 1 }) := by
                rw [hCd]
                exact H5.out.below ⟨rfl, rfl, rfl, Nat.le_refl _, fun _ _ => rfl⟩
              have zz : Hid (∀ W, C W → Mine w W bd S4 A') := fun W h => by
                rw [hCd] at h
                exact Cx.mine h
              have hCp : ∀ p : Prop, (∀ W, C W → p) ↔ p := fun p => ⟨fun h => h _ z0.out, fun h _ _ => h⟩
              generalize total A'.fs = ta at *
              clear H5 hrow5 hCd OC HA HW
              refine region_calm C (by kernel_rfl) ?_
              refine seg 35 [0, 1, 2, 3, 4, 5, 7] rfl (by kernel_rfl) whole_blind z0.out (by kernel_rfl) ?_
              change wpQuiet _ _ _ _ (_ :: _ :: _ :: _ :: _ :: _ :: _ :: []) _
              repeat (first
                | go_big_quiet_skip
                | (go_big_quiet_want
                   go_big_quiet_op
                   go_big_quiet_on))
              refine wpQuiet_nil ?_
              refine lone_do (i := 6) 34 rfl (by kernel_rfl) rfl (by rfl) ?_
              intro K hK
              refine oper_call 20 #[.tmp 109] #[25] rfl #[.pointer (some ⟨bd, 0, none⟩)] (by simp only [List.map_toArray, List.map_cons, List.map_nil]; rfl) (fun _ _ => by go_simp) _ C (k1.out _ z0.out) ?_
              intro w6 hC6
              refine hK _ _ hC6 ?_
              clear hK K
              have z6 : Hid (C w6) := hC6
              clear hC6
              simp only [Act.put, List.setIfInBounds_toArray, List.set_cons_zero, List.set_cons_succ]
              refine seg 26 [8, 9, 10, 11, 12, 13, 14, 15] rfl (by kernel_rfl) whole_blind z6.out (by kernel_rfl) ?_
              change wpQuiet _ _ _ _ (_ :: _ :: _ :: _ :: _ :: _ :: _ :: _ :: []) _
              repeat (first
                | go_big_quiet_skip
                | (go_big_quiet_want
                   go_big_quiet_op
                   go_big_quiet_on))
              refine wpQuiet_nil ?_
              refine lone_pass (i := 16) 25 rfl (by kernel_rfl) rfl (by rfl) z6.out ?_
              simp only [Act.put, List.setIfInBounds_toArray, List.set_cons_zero, List.set_cons_succ]
              refine seg 21 [17, 18, 19, 21] rfl (by kernel_rfl) whole_blind z6.out (by kernel_rfl) ?_
              change wpQuiet _ _ _ _ (_ :: _ :: _ :: _ :: []) _
              repeat (first
                | go_big_quiet_skip
                | (go_big_quiet_want
                   go_big_quiet_op
                   go_big_quiet_on))
              refine wpQuiet_nil ?_
              refine lone_pass (i := 20) 20 rfl (by kernel_rfl) rfl (by rfl) z6.out ?_
              simp only [Act.put, List.setIfInBounds_toArray, List.set_cons_zero, List.set_cons_succ]
              refine seg 7 [22, 23, 24, 25, 26, 27, 28, 29, 31, 33, 34, 35, 36] rfl (by kernel_rfl) whole_blind z6.out (by kernel_rfl) ?_
              change wpQuiet _ _ _ _ (_ :: _ :: _ :: _ :: _ :: _ :: _ :: _ :: _ :: _ :: _ :: _ :: _ :: []) _
              repeat (first
                | go_big_quiet_skip
                | (go_big_quiet_want
                   first
                   | (refine q_cell (.tmp 139) rfl b (off + k) rfl x1 l.length x2 kc.out ?_
                      simp only [Act.put, List.setIfInBounds_toArray, List.set_cons_zero, List.set_cons_succ]
                      go_big_quiet_on)
                   | (go_big_quiet_op
                      go_big_quiet_on)))
              refine wpQuiet_nil ?_
              refine lone_do (i := 30) 6 rfl (by kernel_rfl) rfl (by rfl) ?_
              intro K hK
              refine oper_empty rfl ?_
              have b1 := (Below.refl w6.heap.size w6).alloc (Nat.le_refl _) (.cells #[] 5)
              have oe := own_empty w6 w6.heap.size (Nat.le_refl _)
              refine hK _ _ (kb.out _ _ z6.out b1) ?_
              clear hK K
              simp only [Act.put, List.setIfInBounds_toArray, List.set_cons_zero, List.set_cons_succ]
              refine lone_do (i := 32) 5 rfl (by kernel_rfl) rfl (by rfl) ?_
              intro K hK
              refine oper_app (.tmp 134) (.tmp 135) rfl w6.heap.size _ [] rfl oe p1 _ c1 L1 rfl rfl (ko.out _ (kb.out _ _ z6.out b1)) n1 (by simp only [List.length_nil]; omega) (by simp) ?_
              intro v5 w7 o7 g7 _
              have b7 : Below w6.heap.size w6 w7 := below_app b1 (by simp) oe g7
              refine hK _ _ (kb.out _ _ z6.out b7) ?_
              clear hK K g7
              have o7' : Own w7 w6.heap.size v5 L1 := by simpa using o7
              clear o7
              simp only [Act.put, List.setIfInBounds_toArray, List.set_cons_zero, List.set_cons_succ]
              refine lone_do (i := 37) 4 rfl (by kernel_rfl) rfl (by rfl) ?_
              intro K hK
              refine oper_app (.tmp 136) (.tmp 140) rfl w6.heap.size _ L1 rfl o7' x1 _ x2 l rfl rfl (kl.out _ (kb.out _ _ z6.out b7)) kn.out (by omega) b7.size ?_
              intro v6 w8 o8 g8 _
              have b8 : Below w6.heap.size w6 w8 := below_app b7 b7.size o7' g8
              refine hK _ _ (kb.out _ _ z6.out b8) ?_
              clear hK K g8
              obtain ⟨y6, c6, rfl, by6, _, _⟩ := o8.src
              have k8 := ks.out w8 y6 c6 (kb.out _ _ z6.out b8) by6
              simp only [Act.put, List.setIfInBounds_toArray, List.set_cons_zero, List.set_cons_succ]
              refine lone_do (i := 38) 3 rfl (by kernel_rfl) rfl (by rfl) ?_
              intro K hK
              refine oper_call 14 #[.tmp 133, .tmp 141] #[23, 23] rfl _ (by simp only [List.map_toArray, List.map_cons, List.map_nil]; rfl) (fun _ _ => by go_simp) _ C k8 ?_
              intro w9 hC9
              refine hK _ _ hC9 ?_
              clear hK K k8 by6 o8 b8 o7' b7 b1 oe
              have z9 : Hid (C w9) := hC9
              clear hC9
              simp only [Act.put, List.setIfInBounds_toArray, List.set_cons_zero, List.set_cons_succ]
              refine seg 0 [39, 40, 41] rfl (by kernel_rfl) whole_blind z9.out (by kernel_rfl) ?_
              change wpQuiet _ _ _ _ (_ :: _ :: _ :: []) _
              repeat (first
                | go_big_quiet_skip
                | (go_big_quiet_want
                   go_big_quiet_op
                   go_big_quiet_on))
              refine wpQuiet_nil ?_
              refine anyC_done (by kernel_rfl) ⟨rfl, ?_⟩
              have M9 : Hid (Mine w w9 bd S4 A') := zz.out w9 z9.out
              have f1 := HFIN.out.1
              have f2 := HFIN.out.2.1
              have f3 := HFIN.out.2.2
              clear k1 kc kb ko kl kn ks z0 zz hCp z6 z9 HFIN
              go_wp2
              go_roundw
              case rel => exact ⟨k + 1, S4, A', by omega, by go_num, M9.out, f1, f2, f3⟩
              case measure => simp [intOf]; omega
            · have eA := room_full a s l hgood af (by rw [ar]; exact hfit)
              obtain ⟨A', hA'⟩ : ∃ A', A' = a := ⟨_, rfl⟩
              have AP := m3.append s x1 x2 l hsrc eA
              rw [← hA'] at AP
              clear m3 hsrc
              go_wp2_with fail
              refine AP.mono ?_
              clear AP hrow3
              rintro e w4 ⟨rfl, S4, m4, g4⟩
              obtain ⟨o4, q4⟩ := own_went o3 g4 q2
              have R4 := m4.readC s hsz
              have H4 : Hid (Mine w w4 bd S4 A' ∧ Own w4 w.heap.size (.slice p1 (oldOf (get a.fs s.data.toList)).length c1) (oldOf (get a.fs s.data.toList)) ∧ (∀ g, (Value.slice p1 (oldOf (get a.fs s.data.toList)).length c1).ownBlock = some g → ¬ S4 g)) := ⟨m4, o4, q4⟩
              clear m4 g4 o4 q4 o3 q2
              go_wp2_with fail
              refine R4.mono ?_
              clear R4
              rintro e w5 ⟨v4, err4, rfl, h5⟩
              obtain ⟨m5, o5, q5, k5⟩ := h5.out
              have H5 : Hid (Cx w w5 bd S4 A' (.slice p1 (oldOf (get a.fs s.data.toList)).length c1) (oldOf (get a.fs s.data.toList)) v4 (oldOf (get a.fs s.data.toList))) := ⟨m5, H4.out.2.1.keptBy k5 H4.out.2.2, by rw [hA'] at o5; exact o5, H4.out.2.2, q5⟩
              obtain ⟨p4, c4, rfl, by4, n4, _⟩ := H5.out.o4.src
              have hrow5 := HW.out _ m5.below
              have OC : Hid (Oct (oldOf (get a.fs s.data.toList))) := (oct_old fin)
              clear h5 m5 o5 q5 k5 H4 by4
              have hb1 : (total a.fs : Int) ≤ 5000 := by have := fin.used; rw [ar] at this; omega
              have hb2 : (l.length : Int) ≤ 8000 := by have := HL.out; omega
              have hdec : decide ((total a.fs : Int) + (l.length : Int) ≤ room) = false := by simpa using hfit
              go_wp2_with fail
              have hn0' : (total A'.fs : Int) ≤ room := by have := H5.out.mine.disk.1.fs.used; rw [hA'] at this ⊢; rw [ar] at this; exact this
              have htA : total A'.fs = total a.fs := by rw [hA']
              have hbl := old_len fin (nm := s.data.toList)
              have k1 : Hid (∀ W, Cx w W bd S4 A' (.slice p1 (oldOf (get a.fs s.data.toList)).length c1) (oldOf (get a.fs s.data.toList)) (.slice p4 (oldOf (get a.fs s.data.toList)).length c4) (oldOf (get a.fs s.data.toList)) → Calls Try.prog 20 #[.pointer (some ⟨bd, 0, none⟩)] W fun e w' => e = .returned (.int .i64 (total a.fs)) ∧ Cx w w' bd S4 A' (.slice p1 (oldOf (get a.fs s.data.toList)).length c1) (oldOf (get a.fs s.data.toList)) (.slice p4 (oldOf (get a.fs s.data.toList)).length c4) (oldOf (get a.fs s.data.toList))) := fun W h => by
                have := h.used
                rw [htA] at this
                exact this
              have k2 : Hid (∀ W, Cx w W bd S4 A' (.slice p1 (oldOf (get a.fs s.data.toList)).length c1) (oldOf (get a.fs s.data.toList)) (.slice p4 (oldOf (get a.fs s.data.toList)).length c4) (oldOf (get a.fs s.data.toList)) → Calls Try.prog 14 #[.slice p4 (oldOf (get a.fs s.data.toList)).length c4, .slice p1 (oldOf (get a.fs s.data.toList)).length c1] W fun e w' => e = .returned (.bool true) ∧ Cx w w' bd S4 A' (.slice p1 (oldOf (get a.fs s.data.toList)).length c1) (oldOf (get a.fs s.data.toList)) (.slice p4 (oldOf (get a.fs s.data.toList)).length c4) (oldOf (get a.fs s.data.toList))) := fun W h =>
                h.same (own_byt h.o4) (own_byt h.o1) OC.out (by rw [ar] at hbl; omega)
              have z0 : Hid (Cx w { w5 with drawn := w5.drawn + 1 } bd S4 A' (.slice p1 (oldOf (get a.fs s.data.toList)).length c1) (oldOf (get a.fs s.data.toList)) (.slice p4 (oldOf (get a.fs s.data.toList)).length c4) (oldOf (get a.fs s.data.toList))) := H5.out.below ⟨rfl, rfl, rfl, Nat.le_refl _, fun _ _ => rfl⟩
              have ZZ : Hid (∀ W, Cx w W bd S4 A' (.slice p1 (oldOf (get a.fs s.data.toList)).length c1) (oldOf (get a.fs s.data.toList)) (.slice p4 (oldOf (get a.fs s.data.toList)).length c4) (oldOf (get a.fs s.data.toList)) → Mine w W bd S4 a) := fun W h => by rw [← hA']; exact h.mine
              generalize hC : (fun W => Cx w W bd S4 A' (.slice p1 (oldOf (get a.fs s.data.toList)).length c1) (oldOf (get a.fs s.data.toList)) (.slice p4 (oldOf (get a.fs s.data.toList)).length c4) (oldOf (get a.fs s.data.toList))) = C
              have hCC : ∀ W, Cx w W bd S4 A' (.slice p1 (oldOf (get a.fs s.data.toList)).length c1) (oldOf (get a.fs s.data.toList)) (.slice p4 (oldOf (get a.fs s.data.toList)).length c4) (oldOf (get a.fs s.data.toList)) = C W := fun W => by rw [← hC]
              clear hC
              simp only [hCC] at k1 k2 z0 ZZ
              have hCp : ∀ p : Prop, (∀ W, C W → p) ↔ p := fun p => ⟨fun h => h _ z0.out, fun h _ _ => h⟩
              have hng : (room : Int) < (total a.fs : Int) + (l.length : Int) := by omega
              rw [htA] at hn0'
              have hd2 : decide (room < (total a.fs : Int)) = false := by simpa using hn0'
              clear hCC H5 OC hA' htA hbl hrow5 eA
              generalize (oldOf (get a.fs s.data.toList)).length = nn at *
              generalize total a.fs = tt at *
              generalize l.length = ll at *
              refine q_region (C := C) (by kernel_rfl) (by kernel_rfl) z0.out ?_
              repeat (first
                | go_big_quiet_skip
                | (go_big_quiet_want
                   go_big_quiet_op
                   first
                   | go_big_quiet_on
                   | (apply Exists.intro
                      refine ⟨?_, ?_⟩
                      · first
                        | exact k1.out
                        | exact k2.out
                      go_big_quiet_on)))
              refine wpQuiet_nil ?_
              intro W hW
              have M9 : Hid (Mine w W bd S4 a) := ZZ.out W hW
              clear k1 k2 z0 ZZ
              go_wp2
              go_roundw
              case rel => exact ⟨k + 1, S4, a, by omega, by go_num, M9.out, ar, af, by omega⟩
              case measure => simp [intOf]; omega
          · obtain rfl : k = rs.length := by omega
            go_wp2_with (go_at_call 8; refine (HK.out _ M0.out.below).mono ?_; rintro e w' ⟨rfl, hB⟩)
            go_ret
            exact ⟨rfl, hB⟩
      · clear HR HN
        generalize wt rs = t at *
        generalize rs.length = len at *
        by_cases q1 : t ≤ 8000
        · by_cases q2 : 0 ≤ room
          · by_cases q3 : room ≤ 5000
            · have q4 : ¬ (len ≤ 60) := fun q4 => h8 ⟨q1, q2, q3, q4⟩
              have q4' : (60 : Int) < (len : Int) := by omega
              clear h8 q4
              go_wp2_with (go_at_call 8; refine (HK.out _ (Below.refl _ _)).mono ?_; rintro e w' ⟨rfl, hB⟩)
              go_ret
              exact ⟨rfl, hB⟩
            · have q3' : 5000 < room := by omega
              clear h8 q3
              go_wp2_with (go_at_call 8; refine (HK.out _ (Below.refl _ _)).mono ?_; rintro e w' ⟨rfl, hB⟩)
              go_ret
              exact ⟨rfl, hB⟩
          · have q2' : room < 0 := by omega
            clear h8 q2
            go_wp2_with (go_at_call 8; refine (HK.out _ (Below.refl _ _)).mono ?_; rintro e w' ⟨rfl, hB⟩)
            go_ret
            exact ⟨rfl, hB⟩
        · have q1' : (8000 : Int) < (t : Int) := by omega
          clear h8 q1
          go_wp2_with (go_at_call 8; refine (HK.out _ (Below.refl _ _)).mono ?_; rintro e w' ⟨rfl, hB⟩)
          go_ret
          exact ⟨rfl, hB⟩
end Go.Proofs.Ytifeocedjomkmaa
