/-
  The walk of FrameRows.
-/
import Derived.Test.YthgicnfhclfcjaaDw
namespace Go.Proofs.Ythgicnfhclfcjaa
open Go.RowKit Math
set_option linter.unusedVariables false
def cont (rs : List Rw) : List (List Nat) := rs.map (·.2.2)
theorem cont_take (rs : List Rw) (k : Nat) : cont (rs.take k) = (cont rs).take k := by simp [cont, List.map_take]
theorem cont_snoc (rs : List Rw) (k : Nat) {x : Option Addr} {y : Nat} {l : List Nat} (h : rs[k]? = some (x, y, l)) : cont (rs.take (k + 1)) = cont (rs.take k) ++ [l] := by
  have hlt : k < rs.length := (List.getElem?_eq_some_iff.1 h).1
  rw [List.take_succ_eq_append_getElem hlt]
  rw [List.getElem?_eq_getElem hlt] at h
  simp [cont, Option.some.inj h]
theorem Rws.take {w : World} {a : Option Addr} {rs : List Rw} (h : Rws w a rs) (n : Nat) : Rws w a (rs.take n) := by
  rcases h with rfl | ⟨b, off, rfl, h⟩
  · left; simp
  · refine .inr ⟨b, off, rfl, fun i r hr => ?_⟩
    rw [List.getElem?_take] at hr
    split at hr
    · exact h i r hr
    · cases hr
theorem Rws.row {w : World} {a : Option Addr} {rs : List Rw} (h : Rws w a rs) {k : Nat} (hk : k < rs.length) :
    ∃ b off x y l, a = some ⟨b, off, none⟩ ∧ rs[k]? = some (x, y, l) ∧ w.cell? ⟨b, off + k, none⟩ = some (.slice x l.length y) ∧ RowAt w (x, y, l) := by
  rcases h with rfl | ⟨b, off, rfl, h⟩
  · simp at hk
  · have e := List.getElem?_eq_getElem hk
    obtain ⟨h1, h2⟩ := h k _ e
    exact ⟨b, off, rs[k].1, rs[k].2.1, rs[k].2.2, rfl, e, h1, h2⟩
theorem rcds_len (ps : List (List Nat)) : ps.length * 12 ≤ (rcds ps).length := by
  induction ps with
  | nil => simp [rcds]
  | cons p ps ih => rw [rcds_cons, List.length_append, rcd_length, List.length_cons]; omega
theorem rcds_oct {ps : List (List Nat)} (h : ∀ p ∈ ps, Oct p) : Oct (rcds ps) := by
  induction ps with
  | nil => intro x hx; simp [rcds] at hx
  | cons p ps ih => rw [rcds_cons]; exact oct_app (rcd_oct (h p (by simp))) (ih fun q hq => h q (by simp [hq]))
theorem Rws.octs {w : World} {a : Option Addr} {rs : List Rw} (h : Rws w a rs) : ∀ p ∈ cont rs, Oct p := by
  intro p hp
  obtain ⟨r, hr, rfl⟩ := List.mem_map.1 hp
  rcases h with rfl | ⟨b, off, rfl, h⟩
  · cases hr
  · obtain ⟨i, hi⟩ := List.getElem?_of_mem hr
    exact (h i r hi).2.oct
theorem scan_v {v : Value} {W : World} {base : Nat} {l : List Nat} (h : Own W base v l) (hn : l.length ≤ 1000000) (hb : Oct l) : Calls Try.prog 17 #[v] W (ScanA l W) := by
  obtain ⟨a, c, rfl, h1, h2, h3, h4, _⟩ := h.shape
  unfold maxLen at h2
  exact scan_any a c l hn h1 (by omega) W h4 hb
theorem rows_b (a1 a2 : Option Addr) (c1 c2 : Nat) (r1 r2 : List Rw) (hr : cont r1 = cont r2) (hl : ∀ p ∈ cont r1, p.length ≤ 4000) (n : Nat) (hn1 : r1.length = n) (hn : n ≤ 1000000) (w : World) (h1 : Rws w a1 r1) (h2 : Rws w a2 r2) :
    Calls Try.prog 19 #[.slice a1 n c1, .slice a2 n c2] w fun e w' => e = .returned (.bool true) ∧ Below w.heap.size w w' := by
  refine (rows_any a1 a2 c1 c2 r1 r2 hr (fun r hr => ?_) n hn1 hn w h1 h2).mono ?_
  · have := hl r.2.2 (List.mem_map.2 ⟨r, hr, rfl⟩)
    omega
  · rintro e w' ⟨rfl, hq⟩
    exact ⟨rfl, below_drewq hq⟩
theorem scan_nat (l : List Nat) : (scan l).2.1 ≤ l.length ∧ (scan l).2.2 < 6 := by
  generalize hn : l.length = n
  induction n using Nat.strongRecOn generalizing l with
  | _ n ih =>
    by_cases h0 : l.length = 0
    · rw [scan_nil h0]; simp
    by_cases hd : (dec l).2.2 = 0
    · have hp := dec_pos hd
      have := ih (l.drop (dec l).2.1).length (by rw [List.length_drop]; omega) (l.drop (dec l).2.1) rfl
      rw [List.length_drop] at this
      rw [scan_ok h0 hd]
      exact ⟨by simp only; omega, this.2⟩
    · rw [scan_err h0 hd]; exact ⟨by simp, (dec_nat l).2⟩
/-- What a round of the loop over the rows has: all records so far. -/
def Lp (rs : List Rw) (w : World) (k : Nat) (v : Value) (wr : World) : Prop :=
  Own wr w.heap.size v (rcds (cont (rs.take k))) ∧ Below w.heap.size w wr ∧ (rcds (cont (rs.take k))).length ≤ 4000 ∧ ∀ p ∈ cont (rs.take k), p.length ≤ 4000
theorem Lp.next {rs : List Rw} {w : World} {k : Nat} {v v' : Value} {wr w' : World} (h : Lp rs w k v wr) {x : Option Addr} {y : Nat} {l : List Nat} (e : rs[k]? = some (x, y, l)) (hl : l.length ≤ 4000)
    (o : Own w' w.heap.size v' (rcds (cont (rs.take k)) ++ rcd l)) (b : Below w.heap.size w w') (hle : (rcds (cont (rs.take k)) ++ rcd l).length ≤ 4000) : Lp rs w (k + 1) v' w' := by
  unfold Lp
  rw [cont_snoc rs k e, rcds_snoc]
  refine ⟨o, b, hle, fun p hp => ?_⟩
  rcases List.mem_append.1 hp with h1 | h1
  · exact h.2.2.2 p h1
  · have : p = l := by simpa using h1
    subst this; exact hl
set_option maxHeartbeats 4000000 in
theorem rows_walk (a0 : Option Addr) (cap0 : Nat) (rs : List Rw) (a1 : Option Addr) (cap1 : Nat) (m : List Nat) (w : World) (hrs : Rws w a0 rs) (hlen : rs.length * 24 ≤ 140737488351232) (hc1 : Byt w a1 m) (hb1 : Oct m) (hnil1 : a1 = none → cap1 = 0) (hmax1 : m.length ≤ 140737488351232) :
    Calls Try.prog 8 #[.slice a0 rs.length cap0, .slice a1 m.length cap1] w fun e w' => e = .returned (.bool true) ∧ Below w.heap.size w w' := by
  go_enter Try.func8, Try.ntmps8
  go_wp2
  go_loopw [5, 6] (fun v i wr => ∃ k : Nat, k ≤ rs.length ∧ i = .int .i64 k ∧ Hid (Lp rs w k v wr)) (fun _ i _ => rs.length - (intOf i).toNat)
  case atStart => exact ⟨0, by omega, rfl, own_nil _ _, Below.refl _ _, by simp [cont, rcds], by simp [cont]⟩
  case round =>
    obtain ⟨k, hk, rfl, HI⟩ := hrel
    by_cases hlt : k < rs.length
    · obtain ⟨b, off, x, y, l, rfl, hrk, _, _⟩ := hrs.row hlt
      have HW : Hid (Rws w (some ⟨b, off, none⟩) rs) := hrs
      have hrs' := hrs.below HI.out.2.1
      obtain ⟨_, _, x', y', l', e1, e2, hcell, hrow⟩ := hrs'.row hlt
      injection e1 with e1
      injection e1 with e1 e3
      subst e1 e3
      rw [hrk] at e2
      injection e2 with e2
      injection e2 with e2 e3
      injection e3 with e3 e4
      subst e2 e3 e4
      have HRow : Hid (RowAt wr (x, y, l)) := hrow
      have hll := hrow.len
      simp only at hll
      clear hrow hrs' hc1 hrs
      by_cases hbig : 4000 < l.length
      · have HB : Hid (Below w.heap.size w wr) := HI.out.2.1
        clear HI
        go_wp2
        go_ret
        exact ⟨rfl, HB.out⟩
      have HE : Hid (Calls Try.prog 10 #[.slice x l.length y] wr fun e w' => ∃ g c, e = .returned (.tuple #[.slice (some ⟨g, 0, none⟩) (l.length + 12) c, .int .i64 0]) ∧ Own w' wr.heap.size (.slice (some ⟨g, 0, none⟩) (l.length + 12) c) (rcd l) ∧ Below wr.heap.size wr w') :=
        enc_any x y l (by omega) wr HRow.out.byt HRow.out.oct HRow.out.nil
      go_wp2_with fail
      refine HE.out.mono ?_
      rintro e w1 ⟨g, c, rfl, o1, d1⟩
      clear HE HRow
      have hrl := rcd_length l
      have hRl := HI.out.2.2.1
      have oA : Own w1 w.heap.size u5 (rcds (cont (rs.take k))) := HI.out.1.below d1
      have bA : Below w.heap.size w w1 := HI.out.2.1.trans (d1.mono HI.out.2.1.size)
      have cB : Byt w1 (some ⟨g, 0, none⟩) (rcd l) := .inr ⟨g, 0, rfl, own_cells o1 (by omega)⟩
      have HN : Hid (∀ v' w', Own w' w.heap.size v' (rcds (cont (rs.take k)) ++ rcd l) → Below w.heap.size w w' → (rcds (cont (rs.take k)) ++ rcd l).length ≤ 4000 → Lp rs w (k + 1) v' w') := fun v' w' o b hle => HI.out.next hrk (by omega) o b hle
      clear HI o1 d1
      generalize rcds (cont (rs.take k)) = A at *
      generalize rcd l = B at *
      have HOA : Hid (Own w1 w.heap.size u5 A) := oA
      have sA := bA.size
      clear oA hrk
      go_wp2_with (at_builtin; go_must (refine app_bytes rfl (.tmp 37) (.tmp 38) rfl w.heap.size _ A rfl HOA.out _ _ _ B hrl.symm rfl cB (by simp) (by omega) sA ?_))
      intro v2 w2 o2 g2
      have b2 := below_app bA sA HOA.out g2
      obtain ⟨x2, c2, rfl, _⟩ := o2.shape
      clear g2 HOA bA sA cB
      by_cases hle : (A ++ B).length ≤ 4000
      · have HL : Hid (Lp rs w (k + 1) (.slice x2 (A ++ B).length c2) w2) := HN.out _ _ o2 b2 hle
        clear HN o2 b2
        generalize (A ++ B).length = n at *
        go_wp2
        go_roundw
        case rel => exact ⟨k + 1, by omega, by go_num, HL.out⟩
        case measure => simp [intOf]; omega
      · clear HN o2
        have hle' : 4000 < (A ++ B).length := by omega
        have hub : (A ++ B).length ≤ 1000000 := by simp; omega
        clear hle
        generalize (A ++ B).length = n at *
        go_wp2
        go_ret
        exact ⟨rfl, b2⟩
    · have hke : k = rs.length := by omega
      subst hke
      by_cases hj : 4000 < m.length
      · have HB : Hid (Below w.heap.size w wr) := HI.out.2.1
        clear HI hrs hc1
        go_wp2
        go_ret
        exact ⟨rfl, HB.out⟩
      obtain ⟨oA, bA, hAl, hps⟩ := HI.out
      rw [List.take_length] at oA hAl hps
      have hO := rcds_oct hrs.octs
      have hcl : (cont rs).length = rs.length := by simp [cont]
      have hnum : rs.length * 12 ≤ 4000 := by have := rcds_len (cont rs); omega
      have hsA : scan (rcds (cont rs)) = (cont rs, (rcds (cont rs)).length, 0) := by
        have := scan_rcds (cont rs) [] (fun p hp => by have := hps p hp; omega)
        rw [List.append_nil] at this
        rw [this, scan_nil rfl]; simp
      have hsB := scan_rcds (cont rs) m (fun p hp => by have := hps p hp; omega)
      have H1 : Hid (Calls Try.prog 17 #[u5] wr fun e w' => ∃ v, e = .returned (.tuple #[v, .int .i64 ((rcds (cont rs)).length : Nat), .int .i64 0]) ∧ OwnR w' wr.heap.size v (cont rs) ∧ Below wr.heap.size wr w') := by
        have := scan_v oA (by omega) hO
        unfold ScanA at this
        rw [hsA] at this
        exact this
      have HRows : Hid (∀ (r1 : List Rw) (x1 : Option Addr) (c1 : Nat) (W : World), cont r1 = cont rs → Rws W x1 r1 → Rws W a0 rs → Calls Try.prog 19 #[.slice x1 rs.length c1, .slice a0 rs.length cap0] W fun e w' => e = .returned (.bool true) ∧ Below W.heap.size W w') := fun r1 x1 c1 W e h1 h2 =>
        rows_b x1 a0 c1 cap0 r1 rs e (by rw [e]; exact hps) rs.length (by have := congrArg List.length e; simpa [cont] using this) (by omega) W h1 h2
      have H2 : Hid (∀ (v : Value) (W : World), Own W w.heap.size v (rcds (cont rs) ++ m) → Calls Try.prog 17 #[v] W fun e w' => ∃ (v : Value) (n er : Nat) (qs : List (List Nat)), e = .returned (.tuple #[v, .int .i64 (((rcds (cont rs)).length + n : Nat) : Int), .int .i64 er]) ∧ (n ≤ 1000000 ∧ er < 6) ∧ OwnR w' W.heap.size v (cont rs ++ qs) ∧ Below W.heap.size W w') := fun v W o => by
        have h := scan_v o (by simp; omega) (oct_app hO hb1)
        unfold ScanA at h
        rw [hsB] at h
        have := scan_nat m
        refine h.mono ?_
        rintro e w' ⟨v, rfl, o2, d2⟩
        exact ⟨v, _, _, _, rfl, ⟨by omega, this.2⟩, o2, d2⟩
      have HRs : Hid (Rws w a0 rs) := hrs
      have HC1 : Hid (Byt w a1 m) := hc1
      have HB : Hid (Below w.heap.size w wr) := bA
      obtain ⟨aA, cA, rfl, _, _, hnA, yA, _⟩ := oA.shape
      have HY : Hid (Byt wr aA (rcds (cont rs))) := yA
      generalize rcds (cont rs) = A at *
      clear oA bA hsA hsB hO HI hrs hc1 yA hps hb1
      have hAl' : (A.length : Int) ≤ 4000 := by omega
      go_wp2_with fail
      refine H1.out.mono ?_
      rintro e w1 ⟨v1, rfl, o1, d1⟩
      clear H1
      have b1 := HB.out.trans (d1.mono HB.out.size)
      obtain ⟨r1, x1, c1, e1, rfl, _, _, z1⟩ := o1.shape
      have hl1 : r1.length = rs.length := by have := congrArg List.length e1; simpa [cont] using this
      rw [hl1]
      have HY1 : Hid (Byt w1 aA A) := HY.out.below d1
      clear o1 d1 HY HB
      go_wp2_with fail
      refine (HRows.out r1 x1 c1 w1 e1 z1 (HRs.out.below b1)).mono ?_
      rintro e w2 ⟨rfl, d2⟩
      have b2 := b1.trans (d2.mono b1.size)
      have s2 := b2.size
      have HY2 : Hid (Byt (w2.alloc (.cells #[] 5)) aA A) := (HY1.out.below d2).below ((Below.refl _ _).alloc (Nat.le_refl _) _)
      have oe : Hid (Own (w2.alloc (.cells #[] 5)) w.heap.size (.slice (some ⟨w2.heap.size, 0, none⟩) 0 0) []) := own_empty w2 _ s2
      have b2' : Below w.heap.size w (w2.alloc (.cells #[] 5)) := b2.alloc s2 _
      clear d2 HY1 b1 b2 z1
      go_wp2_with (at_builtin; go_must (refine app_bytes rfl (.tmp 67) (.tmp 68) rfl w.heap.size _ [] rfl oe.out aA _ cA A rfl rfl HY2.out hnA (by simp; omega) (by simp; omega) ?_))
      intro v3 w3 o3 g3
      have b3 := below_app b2' b2'.size oe.out g3
      have s3 := b3.size
      have HC3 : Hid (Byt w3 a1 m) := HC1.out.below b3
      clear g3 b2' oe HY2 HC1
      go_wp2_with (at_builtin; go_must (refine app_bytes rfl (.tmp 69) (.tmp 70) rfl w.heap.size _ A rfl o3 a1 _ cap1 m rfl rfl HC3.out hnil1 (by omega) s3 ?_))
      intro v4 w4 o4 g4
      have b4 := below_app b3 s3 o3 g4
      clear g4 b3 s3 o3 HC3
      go_wp2_with fail
      refine (H2.out v4 w4 o4).mono ?_
      rintro e w5 ⟨v5, n5, er5, qs, rfl, ⟨hn5, her5⟩, o5, d5⟩
      have b5 := b4.trans (d5.mono b4.size)
      clear H2 o4 d5 b4
      obtain ⟨r5, x5, c5, e5, rfl, hrc5, _, z5⟩ := o5.shape
      clear o5
      have hl5 : r5.length = rs.length + qs.length := by have := congrArg List.length e5; simp [cont] at this; exact this
      have hlt5 : (rs.length : Int) ≤ (r5.length : Int) := by omega
      have hlc5 : (rs.length : Int) ≤ (c5 : Int) := by omega
      have hge : (A.length : Int) ≤ ((A.length + n5 : Nat) : Int) := by omega
      have z5' := z5.take rs.length
      have e5' : cont (r5.take rs.length) = cont rs := by
        rw [cont_take]
        show List.take rs.length (r5.map (·.2.2)) = _
        rw [e5]
        exact List.take_left' hcl
      clear e5 z5 hl5
      generalize r5.length = L5 at *
      have HZ : Hid (∀ W, Below w5.heap.size w5 W → Rws W x5 (r5.take rs.length)) := fun W h => z5'.below h
      have HE5 : Hid (cont (r5.take rs.length) = cont rs) := e5'
      clear z5' e5'
      cases x5 with
      | none =>
        go_wp2_with fail
        refine (HRows.out _ none c5 w5 HE5.out (HZ.out w5 (Below.refl _ _)) (HRs.out.below b5)).mono ?_
        rintro e w6 ⟨rfl, d6⟩
        have b6 := b5.trans (d6.mono b5.size)
        go_wp2_with fail
        refine (known_any w6).mono ?_
        rintro e w7 ⟨rfl, d7⟩
        go_wp2
        go_ret
        exact ⟨rfl, b6.trans (d7.mono b6.size)⟩
      | some ad5 =>
        go_wp2_with fail
        refine (HRows.out _ (some ad5) c5 w5 HE5.out (HZ.out w5 (Below.refl _ _)) (HRs.out.below b5)).mono ?_
        rintro e w6 ⟨rfl, d6⟩
        have b6 := b5.trans (d6.mono b5.size)
        go_wp2_with fail
        refine (known_any w6).mono ?_
        rintro e w7 ⟨rfl, d7⟩
        go_wp2
        go_ret
        exact ⟨rfl, b6.trans (d7.mono b6.size)⟩
end Go.Proofs.Ythgicnfhclfcjaa
