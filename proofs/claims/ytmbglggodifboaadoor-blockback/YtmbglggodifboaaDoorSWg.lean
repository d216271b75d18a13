/-
  codec's appendValue, of any value; Encode.
-/
import Derived.Test.YtmbglggodifboaaDoorSG11x
import Derived.Test.YtmbglggodifboaaDoorSG4x
namespace Go.Proofs.YtmbglggodifboaaDoor
open Go.RowKit Math
set_option linter.unusedVariables false
set_option maxRecDepth 8000 in
theorem av_8 (n s : Int) (t : ByteArray) (na : Option Addr) (nl nc : Nat) (ka : Option Addr) (kl kc : Nat) (ax : Option Addr) (c : Nat) (l : List Nat) (hl : l.length ≤ 65536) (X : List Nat) (B : Nat) (W : World) (ho : Own W B (.slice ax l.length c) l) (hB : B ≤ W.heap.size)
    (KK : Hid (∀ v1 w1, Ap B W w1 (.slice ax l.length c) v1 (l ++ [8]) → Calls Tryd.prog 72 #[v1, .agg #[.int .i64 8, .int .i64 n, .int .i64 s, .string t, .slice na nl nc, .slice ka kl kc]] w1 fun e w' => ∃ v' l', e = .returned v' ∧ Hid (Ap B w1 w' v1 v' l' ∧ Wr (l ++ [8]) X l'))) :
    Calls Tryd.prog 60 #[.slice ax l.length c, .agg #[.int .i64 8, .int .i64 n, .int .i64 s, .string t, .slice na nl nc, .slice ka kl kc]] W fun e w' => ∃ v' l', e = .returned v' ∧ Hid (Ap B W w' (.slice ax l.length c) v' l' ∧ Wr l (8 :: X) l') := by
  have h1 : decide ((65536 : Int) < (l.length : Int)) = false := by simp; omega
  have hb0 : Below W.heap.size W (W.alloc (.cells #[.int .i64 8, .int .i64 n, .int .i64 s, .string t, .slice na nl nc, .slice ka kl kc] 39)) := (Below.refl _ _).alloc (Nat.le_refl _) _
  have HO : Hid (Own (W.alloc (.cells #[.int .i64 8, .int .i64 n, .int .i64 s, .string t, .slice na nl nc, .slice ka kl kc] 39)) B (.slice ax l.length c) l) := ho.alloc _
  have HX : Hid (Blk (W.alloc (.cells #[.int .i64 8, .int .i64 n, .int .i64 s, .string t, .slice na nl nc, .slice ka kl kc] 39)) W.heap.size 39 [.int .i64 8, .int .i64 n, .int .i64 s, .string t, .slice na nl nc, .slice ka kl kc]) := blk_new W 39 [.int .i64 8, .int .i64 n, .int .i64 s, .string t, .slice na nl nc, .slice ka kl kc]
  have HN : Hid ((Value.slice ax l.length c).ownBlock ≠ some W.heap.size) := ho.ne
  have HB0 : Hid (Below W.heap.size W (W.alloc (.cells #[.int .i64 8, .int .i64 n, .int .i64 s, .string t, .slice na nl nc, .slice ka kl kc] 39))) := hb0
  have hz : B ≤ (W.alloc (.cells #[.int .i64 8, .int .i64 n, .int .i64 s, .string t, .slice na nl nc, .slice ka kl kc] 39)).heap.size := by simp; omega
  have HZ : Hid ((W.alloc (.cells #[.int .i64 8, .int .i64 n, .int .i64 s, .string t, .slice na nl nc, .slice ka kl kc] 39)).heap.size = W.heap.size + 1) := by show _ = _; simp
  clear ho hb0
  go_enter Tryd.func60, Tryd.ntmps60
  go_wp2_with (at_builtin; go_must (generalize hWW : World.alloc W _ = W1 at *; refine ap_bytes rfl (.tmp 9) (.tmp 13) rfl B _ l rfl (HO.out.alloc _) _ _ _ [8] rfl rfl (byt_at W1 [8] _ HZ.out) (by simp) (by simp; omega) (by simp; omega) ?_))
  intro v1 w1 A1
  have HA : Hid (Ap B W1 w1 (.slice ax l.length c) v1 (l ++ [8])) := Ap.after ((Below.refl _ _).alloc (Nat.le_refl _) _) A1
  clear A1
  have hb1 : B ≤ w1.heap.size := Nat.le_trans hz HA.out.gr.size
  have HX1 : Hid (Blk w1 W.heap.size 39 [.int .i64 8, .int .i64 n, .int .i64 s, .string t, .slice na nl nc, .slice ka kl kc]) := HA.out.blk HX.out HN.out
  have HNE : Hid (v1.ownBlock ≠ some W.heap.size) := fun e => by
    rcases HA.out.ob _ e with h | h
    · exact HN.out h
    · rw [HZ.out] at h
      omega
  have HAW : Hid (Ap B W w1 (.slice ax l.length c) v1 (l ++ [8])) := Ap.after HB0.out HA.out
  clear HA HX HO HB0 hWW hz
  have c0 : w1.cell? ⟨W.heap.size, 0, none⟩ = some (.int .i64 8) := HX1.out.cell 0
  have c1 : w1.cell? ⟨W.heap.size, 1, none⟩ = some (.int .i64 n) := HX1.out.cell 1
  have c2 : w1.cell? ⟨W.heap.size, 2, none⟩ = some (.int .i64 s) := HX1.out.cell 2
  have c3 : w1.cell? ⟨W.heap.size, 3, none⟩ = some (.string t) := HX1.out.cell 3
  have c4 : w1.cell? ⟨W.heap.size, 4, none⟩ = some (.slice na nl nc) := HX1.out.cell 4
  have c5 : w1.cell? ⟨W.heap.size, 5, none⟩ = some (.slice ka kl kc) := HX1.out.cell 5
  have K := KK.out v1 w1 HAW.out
  clear KK
  go_wp2_with fail
  refine K.mono ?_
  clear K c0 c1 c2 c3 c4 c5
  rintro e w2 ⟨v2, l2, rfl, A2⟩
  have HA2 : Hid (Ap B W w2 (.slice ax l.length c) v2 l2 ∧ Wr l (8 :: X) l2) := ⟨HAW.out.trans A2.out.1, (Wr.all l [8]).trans A2.out.2⟩
  clear A2
  go_wp2
  go_ret
  exact ⟨v2, l2, rfl, HA2.out⟩
set_option maxRecDepth 8000 in
theorem av_9 (n s : Int) (t : ByteArray) (na : Option Addr) (nl nc : Nat) (ka : Option Addr) (kl kc : Nat) (ax : Option Addr) (c : Nat) (l : List Nat) (hl : l.length ≤ 65536) (X : List Nat) (B : Nat) (W : World) (ho : Own W B (.slice ax l.length c) l) (hB : B ≤ W.heap.size)
    (KK : Hid (∀ v1 w1, Ap B W w1 (.slice ax l.length c) v1 (l ++ [9]) → Calls Tryd.prog 72 #[v1, .agg #[.int .i64 9, .int .i64 n, .int .i64 s, .string t, .slice na nl nc, .slice ka kl kc]] w1 fun e w' => ∃ v' l', e = .returned v' ∧ Hid (Ap B w1 w' v1 v' l' ∧ Wr (l ++ [9]) X l'))) :
    Calls Tryd.prog 60 #[.slice ax l.length c, .agg #[.int .i64 9, .int .i64 n, .int .i64 s, .string t, .slice na nl nc, .slice ka kl kc]] W fun e w' => ∃ v' l', e = .returned v' ∧ Hid (Ap B W w' (.slice ax l.length c) v' l' ∧ Wr l (9 :: X) l') := by
  have h1 : decide ((65536 : Int) < (l.length : Int)) = false := by simp; omega
  have hb0 : Below W.heap.size W (W.alloc (.cells #[.int .i64 9, .int .i64 n, .int .i64 s, .string t, .slice na nl nc, .slice ka kl kc] 39)) := (Below.refl _ _).alloc (Nat.le_refl _) _
  have HO : Hid (Own (W.alloc (.cells #[.int .i64 9, .int .i64 n, .int .i64 s, .string t, .slice na nl nc, .slice ka kl kc] 39)) B (.slice ax l.length c) l) := ho.alloc _
  have HX : Hid (Blk (W.alloc (.cells #[.int .i64 9, .int .i64 n, .int .i64 s, .string t, .slice na nl nc, .slice ka kl kc] 39)) W.heap.size 39 [.int .i64 9, .int .i64 n, .int .i64 s, .string t, .slice na nl nc, .slice ka kl kc]) := blk_new W 39 [.int .i64 9, .int .i64 n, .int .i64 s, .string t, .slice na nl nc, .slice ka kl kc]
  have HN : Hid ((Value.slice ax l.length c).ownBlock ≠ some W.heap.size) := ho.ne
  have HB0 : Hid (Below W.heap.size W (W.alloc (.cells #[.int .i64 9, .int .i64 n, .int .i64 s, .string t, .slice na nl nc, .slice ka kl kc] 39))) := hb0
  have hz : B ≤ (W.alloc (.cells #[.int .i64 9, .int .i64 n, .int .i64 s, .string t, .slice na nl nc, .slice ka kl kc] 39)).heap.size := by simp; omega
  have HZ : Hid ((W.alloc (.cells #[.int .i64 9, .int .i64 n, .int .i64 s, .string t, .slice na nl nc, .slice ka kl kc] 39)).heap.size = W.heap.size + 1) := by show _ = _; simp
  clear ho hb0
  go_enter Tryd.func60, Tryd.ntmps60
  go_wp2_with (at_builtin; go_must (generalize hWW : World.alloc W _ = W1 at *; refine ap_bytes rfl (.tmp 9) (.tmp 13) rfl B _ l rfl (HO.out.alloc _) _ _ _ [9] rfl rfl (byt_at W1 [9] _ HZ.out) (by simp) (by simp; omega) (by simp; omega) ?_))
  intro v1 w1 A1
  have HA : Hid (Ap B W1 w1 (.slice ax l.length c) v1 (l ++ [9])) := Ap.after ((Below.refl _ _).alloc (Nat.le_refl _) _) A1
  clear A1
  have hb1 : B ≤ w1.heap.size := Nat.le_trans hz HA.out.gr.size
  have HX1 : Hid (Blk w1 W.heap.size 39 [.int .i64 9, .int .i64 n, .int .i64 s, .string t, .slice na nl nc, .slice ka kl kc]) := HA.out.blk HX.out HN.out
  have HNE : Hid (v1.ownBlock ≠ some W.heap.size) := fun e => by
    rcases HA.out.ob _ e with h | h
    · exact HN.out h
    · rw [HZ.out] at h
      omega
  have HAW : Hid (Ap B W w1 (.slice ax l.length c) v1 (l ++ [9])) := Ap.after HB0.out HA.out
  clear HA HX HO HB0 hWW hz
  have c0 : w1.cell? ⟨W.heap.size, 0, none⟩ = some (.int .i64 9) := HX1.out.cell 0
  have c1 : w1.cell? ⟨W.heap.size, 1, none⟩ = some (.int .i64 n) := HX1.out.cell 1
  have c2 : w1.cell? ⟨W.heap.size, 2, none⟩ = some (.int .i64 s) := HX1.out.cell 2
  have c3 : w1.cell? ⟨W.heap.size, 3, none⟩ = some (.string t) := HX1.out.cell 3
  have c4 : w1.cell? ⟨W.heap.size, 4, none⟩ = some (.slice na nl nc) := HX1.out.cell 4
  have c5 : w1.cell? ⟨W.heap.size, 5, none⟩ = some (.slice ka kl kc) := HX1.out.cell 5
  have K := KK.out v1 w1 HAW.out
  clear KK
  go_wp2_with fail
  refine K.mono ?_
  clear K c0 c1 c2 c3 c4 c5
  rintro e w2 ⟨v2, l2, rfl, A2⟩
  have HA2 : Hid (Ap B W w2 (.slice ax l.length c) v2 l2 ∧ Wr l (9 :: X) l2) := ⟨HAW.out.trans A2.out.1, (Wr.all l [9]).trans A2.out.2⟩
  clear A2
  go_wp2
  go_ret
  exact ⟨v2, l2, rfl, HA2.out⟩
theorem av_step (p : Vt) (hw : WfV p) (hc : chk0V p = 0) (ih : ∀ q ∈ p.2.list, AvC q) : AvC p := by
  intro na nc ka kc v l B w0 W hv hb hB0 hB ho hlen
  obtain ⟨ax, c, rfl, _, _, _, _⟩ := ho.byt
  by_cases hl : 65536 < l.length
  · refine (av_long p.1.k p.1.n p.1.s p.1.t na p.1.ns.length nc ka p.2.list.length kc ax c l hl W).mono ?_
    rintro e w' ⟨rfl, g⟩
    exact ⟨_, l, rfl, Ap.after g (Ap.refl (ho.below g)), ⟨Nat.le_refl _, by omega, .inr hl⟩⟩
  have hl : l.length ≤ 65536 := by omega
  obtain ⟨hown, hkid⟩ := own_of0 hc
  obtain ⟨hf, ht, hkl, hnm⟩ := own_fine hown
  have fin : ∀ {w' : World} {e : Ending} (x : List Nat), x = encV p → (∃ v', e = .returned v' ∧ Ap B W w' (.slice ax l.length c) v' (l ++ x)) → ∃ v' l', e = .returned v' ∧ Hid (Ap B W w' (.slice ax l.length c) v' l' ∧ Wr l (encV p) l') := by
    rintro w' e x rfl ⟨v', rfl, A⟩
    exact ⟨v', _, rfl, A, Wr.all _ _⟩
  have enil : p.2 = .nil → encV p = headB p.1 0 := fun h => by unfold encV; rw [h]; simp [enc, Fo.list]
  unfold formed at hf
  split at hf
  · next h =>
    obtain ⟨a1, a2, a3, a4, a5⟩ := leaf_of hf (by decide) (by decide)
    rw [h]
    exact (av_1 p.1.n p.1.s p.1.t na p.1.ns.length nc ka p.2.list.length kc ax c l hl B W ho hB).mono fun e w' H => fin _ (by rw [enil a2, headB, bodyB, h]; rfl) H
  split at hf
  · next _ h =>
    rw [Bool.and_eq_true] at hf
    obtain ⟨a1, a2, a3, a4, a5⟩ := leaf_of hf.1 (by decide) (by decide)
    have hn : p.1.n = 0 ∨ p.1.n = 1 := by simpa using hf.2
    rw [h]
    exact (av_2 p.1.n p.1.s p.1.t na p.1.ns.length nc ka p.2.list.length kc ax c l hl p.1.n.toNat (by omega) (by omega) B W ho hB).mono fun e w' H => fin _ (by rw [enil a2, headB, bodyB, h]; rfl) H
  split at hf
  · next _ _ h =>
    obtain ⟨a1, a2, a3, a4, a5⟩ := leaf_of hf (by decide) (by decide)
    rw [h]
    exact (av_3 p.1.n p.1.s p.1.t na p.1.ns.length nc ka p.2.list.length kc ax c l hl hw.1.n0 hw.1.n1 B W ho hB).mono fun e w' H => fin _ (by rw [enil a2, headB, bodyB, h]; rfl) H
  split at hf
  · next _ _ _ h =>
    simp only [Bool.and_eq_true, decide_eq_true_eq] at hf
    obtain ⟨⟨⟨b1, b2⟩, b3⟩, b4⟩ := hf
    obtain ⟨a1, a2, a3, a4, a5⟩ := leaf_of b1 (by decide) (by decide)
    obtain ⟨s, hs⟩ : ∃ s : Nat, p.1.s = s := ⟨p.1.s.toNat, by omega⟩
    rw [h, hs]
    exact (av_4 p.1.n p.1.t na p.1.ns.length nc ka p.2.list.length kc ax c l hl hw.1.n0 hw.1.n1 s (by omega) B W ho hB).mono fun e w' H => fin _ (by rw [enil a2, headB, bodyB, h, hs]; rfl) H
  split at hf
  · next _ _ _ _ h =>
    simp only [Bool.and_eq_true, decide_eq_true_eq] at hf
    obtain ⟨⟨b1, b2⟩, b3⟩ := hf
    obtain ⟨a1, a2, a3, a4, a5⟩ := leaf_of b1 (by decide) (by decide)
    rw [h]
    exact (av_5 p.1.n p.1.s p.1.t na p.1.ns.length nc ka p.2.list.length kc ax c l hl p.1.n.toNat (by omega) (by omega) B W ho hB).mono fun e w' H => fin _ (by rw [enil a2, headB, bodyB, h]; rfl) H
  split at hf
  · next _ _ _ _ _ h =>
    obtain ⟨a1, a2, a3, a4, a5⟩ := leaf_of hf (by decide) (by decide)
    rw [h]
    exact (av_6 p.1.n p.1.s p.1.t na p.1.ns.length nc ka p.2.list.length kc ax c l hl ht B W ho hB).mono fun e w' H => fin _ (by rw [enil a2, headB, bodyB, h]; rfl) H
  split at hf
  · next _ _ _ _ _ _ h =>
    obtain ⟨a1, a2, a3, a4, a5⟩ := leaf_of hf (by decide) (by decide)
    rw [h]
    exact (av_7 p.1.n p.1.s p.1.t na p.1.ns.length nc ka p.2.list.length kc ax c l hl ht B W ho hB).mono fun e w' H => fin _ (by rw [enil a2, headB, bodyB, h]; rfl) H
  split at hf
  · next _ _ _ _ _ _ _ h =>
    have e : encV p = 8 :: (uv p.2.list.length ++ enc p.2 false p.1.ns) := by unfold encV; rw [headB, bodyB, h]; rfl
    rw [e] at hlen ⊢
    rw [h]
    refine av_8 p.1.n p.1.s p.1.t na p.1.ns.length nc ka p.2.list.length kc ax c l hl _ B W ho hB (fun v1 w1 A => ?_)
    have hsz := A.gr.size
    exact ak_list p h hkl ih na nc ka kc v1 (l ++ [8]) B w0 w1 hv (A.below ho hb hb.size hB0) hB0 (by omega) A.own (by simp only [List.length_append, List.length_cons, List.length_nil] at hlen ⊢; omega)
  split at hf
  · next _ _ _ _ _ _ _ _ h =>
    have e : encV p = 9 :: (uv p.2.list.length ++ enc p.2 true p.1.ns) := by unfold encV; rw [headB, bodyB, h]; rfl
    rw [e] at hlen ⊢
    rw [h]
    obtain ⟨n1, n2⟩ := names_len (hnm h)
    refine av_9 p.1.n p.1.s p.1.t na p.1.ns.length nc ka p.2.list.length kc ax c l hl _ B W ho hB (fun v1 w1 A => ?_)
    have hsz := A.gr.size
    exact ak_struct p h hkl n1 n2 ih na nc ka kc v1 (l ++ [9]) B w0 w1 hv (A.below ho hb hb.size hB0) hB0 (by omega) A.own (by simp only [List.length_append, List.length_cons, List.length_nil] at hlen ⊢; omega)
  · cases hf
theorem av_any : ∀ (N : Nat) (p : Vt), wt p ≤ N → WfV p → chk0V p = 0 → AvC p := by
  intro N
  induction N with
  | zero => intro p hp; exfalso; unfold wt at hp; omega
  | succ N ih =>
    intro p hp hw hc
    exact av_step p hw hc fun q hq => ih q (by have := wt_kid hq; omega) (hw.kid hq) (chk0_mem (own_of0 hc).2 hq)
/-! ### how long -/
theorem bound_head {h : Hd} {kl : Nat} (ho : own h kl = 0) (n0 : -9223372036854775808 ≤ h.n) (n1 : h.n < 9223372036854775808) : (headB h kl).length ≤ 40 + h.t.size := by
  obtain ⟨hf, ht, hkl, hnm⟩ := own_fine ho
  have z := uv_ten _ (zig_nat h.n n0 n1).1
  have u1 := uv_ten h.t.size (by omega)
  have u2 := uv_ten kl (by omega)
  have u3 := uv_ten h.n.toNat (by omega)
  unfold headB bodyB txB
  rw [List.length_cons]
  split
  · simp; omega
  split
  · omega
  split
  · simp; omega
  split
  · omega
  split
  · rw [List.length_append, bts_len]; omega
  split
  · rw [List.length_append, bts_len]; omega
  split
  · omega
  split
  · omega
  · simp
    omega
theorem bound_enc : ∀ (f : Fo) (b : Bool) (ns : List ByteArray), Wf f → chk0 f = 0 → (∀ x ∈ ns, x.size ≤ 40) → (enc f b ns).length ≤ 120 * f.ws
  | .nil, _, _, _, _, _ => by simp [enc]
  | .cons h k r, b, ns, hw, hc, hn => by
    have c1 := chk0_mem (p := (h, k)) hc (by simp [Fo.list])
    have c2 : chk0 r = 0 := by
      have e : chk0 (.cons h k r) = if chk0V (h, k) ≠ 0 then chk0V (h, k) else chk0 r := rfl
      rw [e, if_neg (by simpa using c1)] at hc
      exact hc
    obtain ⟨a, b'⟩ := own_of0 c1
    have hk := own_fine a
    have B1 : (headB h k.list.length).length ≤ 40 + h.t.size := bound_head a hw.1.1.n0 hw.1.1.n1
    have hns : ∀ x ∈ (if h.k = 9 then h.ns else []), x.size ≤ 40 := fun x hx => by
      split at hx
      · next h9 => exact (names_len (hk.nm h9)).2 x hx
      · cases hx
    have B2 : (enc k (decide (h.k = 9)) h.ns).length ≤ 120 * k.ws := by
      by_cases h9 : h.k = 9
      · exact bound_enc k _ _ hw.1.2.2 b' (names_len (hk.nm h9)).2
      · have e0 : ∀ (f : Fo) (ns : List ByteArray), enc f false ns = enc f false [] := by
          intro f
          induction f with
          | nil => intro ns; rfl
          | cons h k r _ ih =>
            intro ns
            show (_ ++ _) ++ enc r false ns.tail = (_ ++ _) ++ enc r false ([] : List ByteArray).tail
            rw [ih ns.tail, ih ([] : List ByteArray).tail]
            simp
        have e1 : decide (h.k = 9) = false := by simpa using h9
        rw [e1, e0]
        exact bound_enc k false [] hw.1.2.2 b' (by simp)
    have B3 := bound_enc r b ns.tail hw.2 c2 (fun x hx => hn x (List.mem_of_mem_tail hx))
    have B4 : (if b then txB (ns.headD ⟨#[]⟩) else []).length ≤ 60 := by
      cases b
      · simp
      · simp only [if_true]
        have hs : (ns.headD ⟨#[]⟩).size ≤ 40 := by
          cases ns with
          | nil => decide
          | cons x ns => exact hn x (by simp)
        unfold txB
        rw [List.length_append, bts_len]
        have := uv_ten (ns.headD ⟨#[]⟩).size (by omega)
        omega
    have hk2 := len_ws k
    have e : enc (.cons h k r) b ns = ((if b then txB (ns.headD ⟨#[]⟩) else []) ++ (headB h k.list.length ++ enc k (decide (h.k = 9)) h.ns)) ++ enc r b ns.tail := rfl
    rw [e, List.length_append, List.length_append, List.length_append]
    simp only [Fo.ws, wsH]
    omega
theorem bound_V (p : Vt) (hw : WfV p) (hc : chk0V p = 0) : (encV p).length ≤ 120 * ws p := by
  have h := bound_enc (.cons p.1 p.2 .nil) false [] ⟨hw, trivial⟩ (by rw [chk0_cons, if_neg (by simpa using hc)]; rfl) (by simp)
  rw [enc_cons] at h
  simp only [Bool.false_eq_true, if_false, List.nil_append, enc, List.append_nil, Fo.ws] at h
  exact h
end Go.Proofs.YtmbglggodifboaaDoor
