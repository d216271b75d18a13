/-
  codec's appendValue, of any value; Encode. · codec.Encode. · Plain mathematics, of no program: SHA-256 over lists of numbers.
-/
import Derived.Test.YtlefdnjokppibaaGreatDoorVG11x
import Derived.Test.YtlefdnjokppibaaGreatDoorVG2x
import Derived.Laws.BitsAllLaws
namespace Go.Proofs.YtlefdnjokppibaaGreatDoor
open Go.RowKit Math
set_option linter.unusedVariables false
set_option maxRecDepth 8000 in
theorem av_8 (n s : Int) (t : ByteArray) (na : Option Addr) (nl nc : Nat) (ka : Option Addr) (kl kc : Nat) (ax : Option Addr) (c : Nat) (l : List Nat) (hl : l.length ≤ 65536) (X : List Nat) (B : Nat) (W : World) (ho : Own W B (.slice ax l.length c) l) (hB : B ≤ W.heap.size)
    (KK : Hid (∀ v1 w1, Ap B W w1 (.slice ax l.length c) v1 (l ++ [8]) → Calls Tryz.prog 111 #[v1, .agg #[.int .i64 8, .int .i64 n, .int .i64 s, .string t, .slice na nl nc, .slice ka kl kc]] w1 fun e w' => ∃ v' l', e = .returned v' ∧ Hid (Ap B w1 w' v1 v' l' ∧ Wr (l ++ [8]) X l'))) :
    Calls Tryz.prog 93 #[.slice ax l.length c, .agg #[.int .i64 8, .int .i64 n, .int .i64 s, .string t, .slice na nl nc, .slice ka kl kc]] W fun e w' => ∃ v' l', e = .returned v' ∧ Hid (Ap B W w' (.slice ax l.length c) v' l' ∧ Wr l (8 :: X) l') := by
  have h1 : decide ((65536 : Int) < (l.length : Int)) = false := by simp; omega
  have hb0 : Below W.heap.size W (W.alloc (.cells #[.int .i64 8, .int .i64 n, .int .i64 s, .string t, .slice na nl nc, .slice ka kl kc] 41)) := (Below.refl _ _).alloc (Nat.le_refl _) _
  have HO : Hid (Own (W.alloc (.cells #[.int .i64 8, .int .i64 n, .int .i64 s, .string t, .slice na nl nc, .slice ka kl kc] 41)) B (.slice ax l.length c) l) := ho.alloc _
  have HX : Hid (Blk (W.alloc (.cells #[.int .i64 8, .int .i64 n, .int .i64 s, .string t, .slice na nl nc, .slice ka kl kc] 41)) W.heap.size 41 [.int .i64 8, .int .i64 n, .int .i64 s, .string t, .slice na nl nc, .slice ka kl kc]) := blk_new W 41 [.int .i64 8, .int .i64 n, .int .i64 s, .string t, .slice na nl nc, .slice ka kl kc]
  have HN : Hid ((Value.slice ax l.length c).ownBlock ≠ some W.heap.size) := ho.ne
  have HB0 : Hid (Below W.heap.size W (W.alloc (.cells #[.int .i64 8, .int .i64 n, .int .i64 s, .string t, .slice na nl nc, .slice ka kl kc] 41))) := hb0
  have hz : B ≤ (W.alloc (.cells #[.int .i64 8, .int .i64 n, .int .i64 s, .string t, .slice na nl nc, .slice ka kl kc] 41)).heap.size := by simp; omega
  have HZ : Hid ((W.alloc (.cells #[.int .i64 8, .int .i64 n, .int .i64 s, .string t, .slice na nl nc, .slice ka kl kc] 41)).heap.size = W.heap.size + 1) := by show _ = _; simp
  clear ho hb0
  go_enter Tryz.func93, Tryz.ntmps93
  go_wp2_with (at_builtin; go_must (generalize hWW : World.alloc W _ = W1 at *; refine ap_bytes rfl (.tmp 9) (.tmp 13) rfl B _ l rfl (HO.out.alloc _) _ _ _ [8] rfl rfl (byt_at W1 [8] _ HZ.out) (by simp) (by simp; omega) (by simp; omega) ?_))
  intro v1 w1 A1
  have HA : Hid (Ap B W1 w1 (.slice ax l.length c) v1 (l ++ [8])) := Ap.after ((Below.refl _ _).alloc (Nat.le_refl _) _) A1
  clear A1
  have hb1 : B ≤ w1.heap.size := Nat.le_trans hz HA.out.gr.size
  have HX1 : Hid (Blk w1 W.heap.size 41 [.int .i64 8, .int .i64 n, .int .i64 s, .string t, .slice na nl nc, .slice ka kl kc]) := HA.out.blk HX.out HN.out
  have HNE : Hid (v1.ownBlock ≠ some W.heap.size) := fun e => by
    rcases HA.out.ob _ e with h | h
    · exact HN.out h
    · rw [HZ.out] at h
      omega
  have HAW : Hid (Ap B W w1 (.slice ax l.length c) v1 (l ++ [8])) := Ap.after HB0.out HA.out
  clear HA HX HO HB0 hWW hz
  have c0 : w1.cell? ⟨W.heap.size, 0, none⟩ = some (.int .i64 8) := HX1.out.cell 0
  have c1 : w1.cell? ⟨W.heap.size, 1, none⟩ = some (.int .i64 n) := HX1.out.cell 1
  have c2 : w1.cell? ⟨W.heap.size, 2, none⟩ = some (.int .i64 s) := HX1.out.cell 2
  have c3 : w1.cell? ⟨W.heap.size, 3, none⟩ = some (.string t) := HX1.out.cell 3
  have c4 : w1.cell? ⟨W.heap.size, 4, none⟩ = some (.slice na nl nc) := HX1.out.cell 4
  have c5 : w1.cell? ⟨W.heap.size, 5, none⟩ = some (.slice ka kl kc) := HX1.out.cell 5
  have K := KK.out v1 w1 HAW.out
  clear KK
  go_wp2_with fail
  refine K.mono ?_
  clear K c0 c1 c2 c3 c4 c5
  rintro e w2 ⟨v2, l2, rfl, A2⟩
  have HA2 : Hid (Ap B W w2 (.slice ax l.length c) v2 l2 ∧ Wr l (8 :: X) l2) := ⟨HAW.out.trans A2.out.1, (Wr.all l [8]).trans A2.out.2⟩
  clear A2
  go_wp2
  go_ret
  exact ⟨v2, l2, rfl, HA2.out⟩
set_option maxRecDepth 8000 in
theorem av_9 (n s : Int) (t : ByteArray) (na : Option Addr) (nl nc : Nat) (ka : Option Addr) (kl kc : Nat) (ax : Option Addr) (c : Nat) (l : List Nat) (hl : l.length ≤ 65536) (X : List Nat) (B : Nat) (W : World) (ho : Own W B (.slice ax l.length c) l) (hB : B ≤ W.heap.size)
    (KK : Hid (∀ v1 w1, Ap B W w1 (.slice ax l.length c) v1 (l ++ [9]) → Calls Tryz.prog 111 #[v1, .agg #[.int .i64 9, .int .i64 n, .int .i64 s, .string t, .slice na nl nc, .slice ka kl kc]] w1 fun e w' => ∃ v' l', e = .returned v' ∧ Hid (Ap B w1 w' v1 v' l' ∧ Wr (l ++ [9]) X l'))) :
    Calls Tryz.prog 93 #[.slice ax l.length c, .agg #[.int .i64 9, .int .i64 n, .int .i64 s, .string t, .slice na nl nc, .slice ka kl kc]] W fun e w' => ∃ v' l', e = .returned v' ∧ Hid (Ap B W w' (.slice ax l.length c) v' l' ∧ Wr l (9 :: X) l') := by
  have h1 : decide ((65536 : Int) < (l.length : Int)) = false := by simp; omega
  have hb0 : Below W.heap.size W (W.alloc (.cells #[.int .i64 9, .int .i64 n, .int .i64 s, .string t, .slice na nl nc, .slice ka kl kc] 41)) := (Below.refl _ _).alloc (Nat.le_refl _) _
  have HO : Hid (Own (W.alloc (.cells #[.int .i64 9, .int .i64 n, .int .i64 s, .string t, .slice na nl nc, .slice ka kl kc] 41)) B (.slice ax l.length c) l) := ho.alloc _
  have HX : Hid (Blk (W.alloc (.cells #[.int .i64 9, .int .i64 n, .int .i64 s, .string t, .slice na nl nc, .slice ka kl kc] 41)) W.heap.size 41 [.int .i64 9, .int .i64 n, .int .i64 s, .string t, .slice na nl nc, .slice ka kl kc]) := blk_new W 41 [.int .i64 9, .int .i64 n, .int .i64 s, .string t, .slice na nl nc, .slice ka kl kc]
  have HN : Hid ((Value.slice ax l.length c).ownBlock ≠ some W.heap.size) := ho.ne
  have HB0 : Hid (Below W.heap.size W (W.alloc (.cells #[.int .i64 9, .int .i64 n, .int .i64 s, .string t, .slice na nl nc, .slice ka kl kc] 41))) := hb0
  have hz : B ≤ (W.alloc (.cells #[.int .i64 9, .int .i64 n, .int .i64 s, .string t, .slice na nl nc, .slice ka kl kc] 41)).heap.size := by simp; omega
  have HZ : Hid ((W.alloc (.cells #[.int .i64 9, .int .i64 n, .int .i64 s, .string t, .slice na nl nc, .slice ka kl kc] 41)).heap.size = W.heap.size + 1) := by show _ = _; simp
  clear ho hb0
  go_enter Tryz.func93, Tryz.ntmps93
  go_wp2_with (at_builtin; go_must (generalize hWW : World.alloc W _ = W1 at *; refine ap_bytes rfl (.tmp 9) (.tmp 13) rfl B _ l rfl (HO.out.alloc _) _ _ _ [9] rfl rfl (byt_at W1 [9] _ HZ.out) (by simp) (by simp; omega) (by simp; omega) ?_))
  intro v1 w1 A1
  have HA : Hid (Ap B W1 w1 (.slice ax l.length c) v1 (l ++ [9])) := Ap.after ((Below.refl _ _).alloc (Nat.le_refl _) _) A1
  clear A1
  have hb1 : B ≤ w1.heap.size := Nat.le_trans hz HA.out.gr.size
  have HX1 : Hid (Blk w1 W.heap.size 41 [.int .i64 9, .int .i64 n, .int .i64 s, .string t, .slice na nl nc, .slice ka kl kc]) := HA.out.blk HX.out HN.out
  have HNE : Hid (v1.ownBlock ≠ some W.heap.size) := fun e => by
    rcases HA.out.ob _ e with h | h
    · exact HN.out h
    · rw [HZ.out] at h
      omega
  have HAW : Hid (Ap B W w1 (.slice ax l.length c) v1 (l ++ [9])) := Ap.after HB0.out HA.out
  clear HA HX HO HB0 hWW hz
  have c0 : w1.cell? ⟨W.heap.size, 0, none⟩ = some (.int .i64 9) := HX1.out.cell 0
  have c1 : w1.cell? ⟨W.heap.size, 1, none⟩ = some (.int .i64 n) := HX1.out.cell 1
  have c2 : w1.cell? ⟨W.heap.size, 2, none⟩ = some (.int .i64 s) := HX1.out.cell 2
  have c3 : w1.cell? ⟨W.heap.size, 3, none⟩ = some (.string t) := HX1.out.cell 3
  have c4 : w1.cell? ⟨W.heap.size, 4, none⟩ = some (.slice na nl nc) := HX1.out.cell 4
  have c5 : w1.cell? ⟨W.heap.size, 5, none⟩ = some (.slice ka kl kc) := HX1.out.cell 5
  have K := KK.out v1 w1 HAW.out
  clear KK
  go_wp2_with fail
  refine K.mono ?_
  clear K c0 c1 c2 c3 c4 c5
  rintro e w2 ⟨v2, l2, rfl, A2⟩
  have HA2 : Hid (Ap B W w2 (.slice ax l.length c) v2 l2 ∧ Wr l (9 :: X) l2) := ⟨HAW.out.trans A2.out.1, (Wr.all l [9]).trans A2.out.2⟩
  clear A2
  go_wp2
  go_ret
  exact ⟨v2, l2, rfl, HA2.out⟩
theorem av_step (p : Vt) (hw : WfV p) (hc : chk0V p = 0) (ih : ∀ q ∈ p.2.list, AvC q) : AvC p := by
  intro na nc ka kc v l B w0 W hv hb hB0 hB ho hlen
  obtain ⟨ax, c, rfl, _, _, _, _⟩ := ho.byt
  by_cases hl : 65536 < l.length
  · refine (av_long p.1.k p.1.n p.1.s p.1.t na p.1.ns.length nc ka p.2.list.length kc ax c l hl W).mono ?_
    rintro e w' ⟨rfl, g⟩
    exact ⟨_, l, rfl, Ap.after g (Ap.refl (ho.below g)), ⟨Nat.le_refl _, by omega, .inr hl⟩⟩
  have hl : l.length ≤ 65536 := by omega
  obtain ⟨hown, hkid⟩ := own_of0 hc
  obtain ⟨hf, ht, hkl, hnm⟩ := own_fine hown
  have fin : ∀ {w' : World} {e : Ending} (x : List Nat), x = encV p → (∃ v', e = .returned v' ∧ Ap B W w' (.slice ax l.length c) v' (l ++ x)) → ∃ v' l', e = .returned v' ∧ Hid (Ap B W w' (.slice ax l.length c) v' l' ∧ Wr l (encV p) l') := by
    rintro w' e x rfl ⟨v', rfl, A⟩
    exact ⟨v', _, rfl, A, Wr.all _ _⟩
  have enil : p.2 = .nil → encV p = headB p.1 0 := fun h => by unfold encV; rw [h]; simp [enc, Fo.list]
  unfold formed at hf
  split at hf
  · next h =>
    obtain ⟨a1, a2, a3, a4, a5⟩ := leaf_of hf (by decide) (by decide)
    rw [h]
    exact (av_1 p.1.n p.1.s p.1.t na p.1.ns.length nc ka p.2.list.length kc ax c l hl B W ho hB).mono fun e w' H => fin _ (by rw [enil a2, headB, bodyB, h]; rfl) H
  split at hf
  · next _ h =>
    rw [Bool.and_eq_true] at hf
    obtain ⟨a1, a2, a3, a4, a5⟩ := leaf_of hf.1 (by decide) (by decide)
    have hn : p.1.n = 0 ∨ p.1.n = 1 := by simpa using hf.2
    rw [h]
    exact (av_2 p.1.n p.1.s p.1.t na p.1.ns.length nc ka p.2.list.length kc ax c l hl p.1.n.toNat (by omega) (by omega) B W ho hB).mono fun e w' H => fin _ (by rw [enil a2, headB, bodyB, h]; rfl) H
  split at hf
  · next _ _ h =>
    obtain ⟨a1, a2, a3, a4, a5⟩ := leaf_of hf (by decide) (by decide)
    rw [h]
    exact (av_3 p.1.n p.1.s p.1.t na p.1.ns.length nc ka p.2.list.length kc ax c l hl hw.1.n0 hw.1.n1 B W ho hB).mono fun e w' H => fin _ (by rw [enil a2, headB, bodyB, h]; rfl) H
  split at hf
  · next _ _ _ h =>
    simp only [Bool.and_eq_true, decide_eq_true_eq] at hf
    obtain ⟨⟨⟨b1, b2⟩, b3⟩, b4⟩ := hf
    obtain ⟨a1, a2, a3, a4, a5⟩ := leaf_of b1 (by decide) (by decide)
    obtain ⟨s, hs⟩ : ∃ s : Nat, p.1.s = s := ⟨p.1.s.toNat, by omega⟩
    rw [h, hs]
    exact (av_4 p.1.n p.1.t na p.1.ns.length nc ka p.2.list.length kc ax c l hl hw.1.n0 hw.1.n1 s (by omega) B W ho hB).mono fun e w' H => fin _ (by rw [enil a2, headB, bodyB, h, hs]; rfl) H
  split at hf
  · next _ _ _ _ h =>
    simp only [Bool.and_eq_true, decide_eq_true_eq] at hf
    obtain ⟨⟨b1, b2⟩, b3⟩ := hf
    obtain ⟨a1, a2, a3, a4, a5⟩ := leaf_of b1 (by decide) (by decide)
    rw [h]
    exact (av_5 p.1.n p.1.s p.1.t na p.1.ns.length nc ka p.2.list.length kc ax c l hl p.1.n.toNat (by omega) (by omega) B W ho hB).mono fun e w' H => fin _ (by rw [enil a2, headB, bodyB, h]; rfl) H
  split at hf
  · next _ _ _ _ _ h =>
    obtain ⟨a1, a2, a3, a4, a5⟩ := leaf_of hf (by decide) (by decide)
    rw [h]
    exact (av_6 p.1.n p.1.s p.1.t na p.1.ns.length nc ka p.2.list.length kc ax c l hl ht B W ho hB).mono fun e w' H => fin _ (by rw [enil a2, headB, bodyB, h]; rfl) H
  split at hf
  · next _ _ _ _ _ _ h =>
    obtain ⟨a1, a2, a3, a4, a5⟩ := leaf_of hf (by decide) (by decide)
    rw [h]
    exact (av_7 p.1.n p.1.s p.1.t na p.1.ns.length nc ka p.2.list.length kc ax c l hl ht B W ho hB).mono fun e w' H => fin _ (by rw [enil a2, headB, bodyB, h]; rfl) H
  split at hf
  · next _ _ _ _ _ _ _ h =>
    have e : encV p = 8 :: (uv p.2.list.length ++ enc p.2 false p.1.ns) := by unfold encV; rw [headB, bodyB, h]; rfl
    rw [e] at hlen ⊢
    rw [h]
    refine av_8 p.1.n p.1.s p.1.t na p.1.ns.length nc ka p.2.list.length kc ax c l hl _ B W ho hB (fun v1 w1 A => ?_)
    have hsz := A.gr.size
    exact ak_list p h hkl ih na nc ka kc v1 (l ++ [8]) B w0 w1 hv (A.below ho hb hb.size hB0) hB0 (by omega) A.own (by simp only [List.length_append, List.length_cons, List.length_nil] at hlen ⊢; omega)
  split at hf
  · next _ _ _ _ _ _ _ _ h =>
    have e : encV p = 9 :: (uv p.2.list.length ++ enc p.2 true p.1.ns) := by unfold encV; rw [headB, bodyB, h]; rfl
    rw [e] at hlen ⊢
    rw [h]
    obtain ⟨n1, n2⟩ := names_len (hnm h)
    refine av_9 p.1.n p.1.s p.1.t na p.1.ns.length nc ka p.2.list.length kc ax c l hl _ B W ho hB (fun v1 w1 A => ?_)
    have hsz := A.gr.size
    exact ak_struct p h hkl n1 n2 ih na nc ka kc v1 (l ++ [9]) B w0 w1 hv (A.below ho hb hb.size hB0) hB0 (by omega) A.own (by simp only [List.length_append, List.length_cons, List.length_nil] at hlen ⊢; omega)
  · cases hf
theorem av_any : ∀ (N : Nat) (p : Vt), wt p ≤ N → WfV p → chk0V p = 0 → AvC p := by
  intro N
  induction N with
  | zero => intro p hp; exfalso; unfold wt at hp; omega
  | succ N ih =>
    intro p hp hw hc
    exact av_step p hw hc fun q hq => ih q (by have := wt_kid hq; omega) (hw.kid hq) (chk0_mem (own_of0 hc).2 hq)
/-! ### how long -/
theorem bound_head {h : Hd} {kl : Nat} (ho : own h kl = 0) (n0 : -9223372036854775808 ≤ h.n) (n1 : h.n < 9223372036854775808) : (headB h kl).length ≤ 40 + h.t.size := by
  obtain ⟨hf, ht, hkl, hnm⟩ := own_fine ho
  have z := uv_ten _ (zig_nat h.n n0 n1).1
  have u1 := uv_ten h.t.size (by omega)
  have u2 := uv_ten kl (by omega)
  have u3 := uv_ten h.n.toNat (by omega)
  unfold headB bodyB txB
  rw [List.length_cons]
  split
  · simp; omega
  split
  · omega
  split
  · simp; omega
  split
  · omega
  split
  · rw [List.length_append, bts_len]; omega
  split
  · rw [List.length_append, bts_len]; omega
  split
  · omega
  split
  · omega
  · simp
    omega
theorem bound_enc : ∀ (f : Fo) (b : Bool) (ns : List ByteArray), Wf f → chk0 f = 0 → (∀ x ∈ ns, x.size ≤ 40) → (enc f b ns).length ≤ 120 * f.ws
  | .nil, _, _, _, _, _ => by simp [enc]
  | .cons h k r, b, ns, hw, hc, hn => by
    have c1 := chk0_mem (p := (h, k)) hc (by simp [Fo.list])
    have c2 : chk0 r = 0 := by
      have e : chk0 (.cons h k r) = if chk0V (h, k) ≠ 0 then chk0V (h, k) else chk0 r := rfl
      rw [e, if_neg (by simpa using c1)] at hc
      exact hc
    obtain ⟨a, b'⟩ := own_of0 c1
    have hk := own_fine a
    have B1 : (headB h k.list.length).length ≤ 40 + h.t.size := bound_head a hw.1.1.n0 hw.1.1.n1
    have hns : ∀ x ∈ (if h.k = 9 then h.ns else []), x.size ≤ 40 := fun x hx => by
      split at hx
      · next h9 => exact (names_len (hk.nm h9)).2 x hx
      · cases hx
    have B2 : (enc k (decide (h.k = 9)) h.ns).length ≤ 120 * k.ws := by
      by_cases h9 : h.k = 9
      · exact bound_enc k _ _ hw.1.2.2 b' (names_len (hk.nm h9)).2
      · have e0 : ∀ (f : Fo) (ns : List ByteArray), enc f false ns = enc f false [] := by
          intro f
          induction f with
          | nil => intro ns; rfl
          | cons h k r _ ih =>
            intro ns
            show (_ ++ _) ++ enc r false ns.tail = (_ ++ _) ++ enc r false ([] : List ByteArray).tail
            rw [ih ns.tail, ih ([] : List ByteArray).tail]
            simp
        have e1 : decide (h.k = 9) = false := by simpa using h9
        rw [e1, e0]
        exact bound_enc k false [] hw.1.2.2 b' (by simp)
    have B3 := bound_enc r b ns.tail hw.2 c2 (fun x hx => hn x (List.mem_of_mem_tail hx))
    have B4 : (if b then txB (ns.headD ⟨#[]⟩) else []).length ≤ 60 := by
      cases b
      · simp
      · simp only [if_true]
        have hs : (ns.headD ⟨#[]⟩).size ≤ 40 := by
          cases ns with
          | nil => decide
          | cons x ns => exact hn x (by simp)
        unfold txB
        rw [List.length_append, bts_len]
        have := uv_ten (ns.headD ⟨#[]⟩).size (by omega)
        omega
    have hk2 := len_ws k
    have e : enc (.cons h k r) b ns = ((if b then txB (ns.headD ⟨#[]⟩) else []) ++ (headB h k.list.length ++ enc k (decide (h.k = 9)) h.ns)) ++ enc r b ns.tail := rfl
    rw [e, List.length_append, List.length_append, List.length_append]
    simp only [Fo.ws, wsH]
    omega
theorem bound_V (p : Vt) (hw : WfV p) (hc : chk0V p = 0) : (encV p).length ≤ 120 * ws p := by
  have h := bound_enc (.cons p.1 p.2 .nil) false [] ⟨hw, trivial⟩ (by rw [chk0_cons, if_neg (by simpa using hc)]; rfl) (by simp)
  rw [enc_cons] at h
  simp only [Bool.false_eq_true, if_false, List.nil_append, enc, List.append_nil, Fo.ws] at h
  exact h
end Go.Proofs.YtlefdnjokppibaaGreatDoor
namespace Go.Proofs.YtlefdnjokppibaaGreatDoor
open Go.RowKit Math
set_option linter.unusedVariables false
/-- What Encode answers. -/
def encE (p : Vt) : Int := if chkV p 1 ≠ 0 then chkV p 1 else if 65536 < (encV p).length then 5 else 0
def encB (p : Vt) : List Nat := if encE p = 0 then encV p else []
theorem encE_no {p : Vt} (h : chkV p 1 ≠ 0) : encE p = chkV p 1 ∧ encB p = [] := by
  have e : encE p = chkV p 1 := by unfold encE; rw [if_pos h]
  exact ⟨e, by unfold encB; rw [e, if_neg h]⟩
theorem encE_long {p : Vt} (h : chkV p 1 = 0) (hl : 65536 < (encV p).length) : encE p = 5 ∧ encB p = [] := by
  have e : encE p = 5 := by unfold encE; rw [if_neg (by simpa using h), if_pos hl]
  exact ⟨e, by unfold encB; rw [e]; rfl⟩
theorem encE_yes {p : Vt} (h : chkV p 1 = 0) (hl : ¬ 65536 < (encV p).length) : encE p = 0 ∧ encB p = encV p := by
  have e : encE p = 0 := by unfold encE; rw [if_neg (by simpa using h), if_neg hl]
  exact ⟨e, by unfold encB; rw [e]; rfl⟩
theorem chk1 {p : Vt} (h : chkV p 1 = 0) : chk0V p = 0 := by rw [← chkV_flat p 1 (deepV_of p 1 h)]; exact h
set_option maxRecDepth 8000 in
theorem encode_all (p : Vt) (hw : WfV p) (hl : chkV p 1 = 0 → (encV p).length ≤ 12000000) (na : Option Addr) (nc : Nat) (ka : Option Addr) (kc : Nat) (W : World) (hv : Vl W p na nc ka kc) :
    Calls Tryz.prog 69 #[.agg #[.int .i64 p.1.k, .int .i64 p.1.n, .int .i64 p.1.s, .string p.1.t, .slice na p.1.ns.length nc, .slice ka p.2.list.length kc]] W fun e w' => ∃ v', e = .returned (.tuple #[v', .int .i64 (encE p)]) ∧ Hid (Own w' W.heap.size v' (encB p) ∧ Below W.heap.size W w') := by
  obtain ⟨W1, HW1⟩ : ∃ W1, Hid (W.alloc (.cells #[.int .i64 p.1.k, .int .i64 p.1.n, .int .i64 p.1.s, .string p.1.t, .slice na p.1.ns.length nc, .slice ka p.2.list.length kc] 41) = W1) := ⟨_, rfl⟩
  have HX : Hid (Blk W1 W.heap.size 41 (six p.1 na nc ka p.2.list.length kc)) := by rw [← HW1.out]; exact blk_new W 41 (six p.1 na nc ka p.2.list.length kc)
  have HB1 : Hid (Below W.heap.size W W1) := by rw [← HW1.out]; exact (Below.refl _ _).alloc (Nat.le_refl _) _
  have hz1 : W1.heap.size = W.heap.size + 1 := by have := HW1.out; subst this; simp
  have HV : Hid (Vl W p na nc ka kc) := hv
  have KC := vCheck_any p hw na nc ka kc W1 (hv.below HB1.out)
  have KA : Hid (chkV p 1 = 0 → AvC p ∧ (encV p).length ≤ 12000000) := fun h => ⟨av_any _ p (Nat.le_refl _) hw (chk1 h), hl h⟩
  have HN : Hid (chkV p 1 ≠ 0 → encE p = chkV p 1 ∧ encB p = []) := encE_no
  have HL : Hid (chkV p 1 = 0 → 65536 < (encV p).length → encE p = 5 ∧ encB p = []) := encE_long
  have HY : Hid (chkV p 1 = 0 → ¬ 65536 < (encV p).length → encE p = 0 ∧ encB p = encV p) := encE_yes
  generalize encE p = EE at *
  generalize encB p = BB at *
  generalize chkV p 1 = E at *
  clear hv
  go_enter Tryz.func69, Tryz.ntmps69
  go_wp2_with fail
  generalize hWW : World.alloc W _ = W9
  obtain rfl : W1 = W9 := by rw [← hWW, ← HW1.out]
  clear hWW HW1
  refine KC.mono ?_
  clear KC
  rintro e w1 ⟨rfl, b1⟩
  have HB2 : Hid (Below W.heap.size W w1) := HB1.out.trans (b1.mono HB1.out.size)
  have HX2 : Hid (Blk w1 W.heap.size 41 (six p.1 na nc ka p.2.list.length kc)) := HX.out.below b1 HX.out.lt
  clear b1 HB1 HX
  by_cases hE : E = 0
  case neg =>
    obtain ⟨e1, e2⟩ := HN.out hE
    subst e1 e2
    have hEb : (EE != 0) = true := by simpa using hE
    go_wp2
    go_ret2
    exact ⟨_, rfl, World.ownsRow_nil _ _ _ _, HB2.out⟩
  subst hE
  obtain ⟨ka1, kl1⟩ := KA.out rfl
  have c0 : w1.cell? ⟨W.heap.size, 0, none⟩ = some (.int .i64 p.1.k) := HX2.out.cell 0
  have c1 : w1.cell? ⟨W.heap.size, 1, none⟩ = some (.int .i64 p.1.n) := HX2.out.cell 1
  have c2 : w1.cell? ⟨W.heap.size, 2, none⟩ = some (.int .i64 p.1.s) := HX2.out.cell 2
  have c3 : w1.cell? ⟨W.heap.size, 3, none⟩ = some (.string p.1.t) := HX2.out.cell 3
  have c4 : w1.cell? ⟨W.heap.size, 4, none⟩ = some (.slice na p.1.ns.length nc) := HX2.out.cell 4
  have c5 : w1.cell? ⟨W.heap.size, 5, none⟩ = some (.slice ka p.2.list.length kc) := HX2.out.cell 5
  have KV := ka1 na nc ka kc (.slice none 0 0) [] W.heap.size W w1 HV.out HB2.out (Nat.le_refl _) HB2.out.size (World.ownsRow_nil _ _ _ _) (by simp only [List.length_nil]; omega)
  clear KA HN ka1
  go_wp2_with fail
  refine KV.mono ?_
  clear KV c0 c1 c2 c3 c4 c5
  rintro e w2 ⟨v2, l2, rfl, H2⟩
  have HB3 : Hid (Below W.heap.size W w2) := H2.out.1.below (show Own w1 W.heap.size (.slice none 0 0) [] from World.ownsRow_nil _ _ _ _) HB2.out HB2.out.size (Nat.le_refl _)
  have HO2 : Hid (Own w2 W.heap.size v2 l2) := H2.out.1.own
  have HW2 : Hid (Wr [] (encV p) l2) := H2.out.2
  obtain ⟨ax, c, rfl, _, _, hlc, hcm⟩ := HO2.out.byt
  clear H2 HX2 HB2
  have hup : l2.length ≤ 12000000 := by have := HW2.out.up; simp only [List.length_nil] at this; omega
  by_cases hl : 65536 < l2.length
  · have hl2 : 65536 < (encV p).length := by have := HW2.out.up; simp only [List.length_nil] at this; omega
    obtain ⟨e1, e2⟩ := HL.out (by trivial) hl2
    subst e1 e2
    have hlb : decide ((65536 : Int) < (l2.length : Int)) = true := by simp; omega
    clear hl2
    go_wp2
    go_ret2
    exact ⟨_, rfl, World.ownsRow_nil _ _ _ _, HB3.out⟩
  · have e : l2 = encV p := by
      rcases HW2.out.out with h | h
      · simpa using h
      · exact absurd h hl
    obtain ⟨e1, e2⟩ := HY.out (by trivial) (by rw [← e]; exact hl)
    subst e1
    have HO3 : Hid (Own w2 W.heap.size (.slice ax l2.length c) BB) := by rw [e2, ← e]; exact HO2.out
    have hlb : decide ((65536 : Int) < (l2.length : Int)) = false := by simp; omega
    clear e e2 HL HY
    go_wp2
    go_ret2
    exact ⟨_, rfl, HO3.out, HB3.out⟩
end Go.Proofs.YtlefdnjokppibaaGreatDoor
namespace Go.Proofs.YtlefdnjokppibaaGreatDoor.Sh.Mt

/-! ### words -/
def rotr (x n : Nat) : Nat := x / 2 ^ n ||| x * 2 ^ (32 - n) % 4294967296
def bs1 (e : Nat) : Nat := rotr e 6 ^^^ rotr e 11 ^^^ rotr e 25
def bs0 (a : Nat) : Nat := rotr a 2 ^^^ rotr a 13 ^^^ rotr a 22
def ss0 (x : Nat) : Nat := rotr x 7 ^^^ rotr x 18 ^^^ x / 8
def ss1 (y : Nat) : Nat := rotr y 17 ^^^ rotr y 19 ^^^ y / 1024
def cho (e f g : Nat) : Nat := (e &&& f) ^^^ ((4294967295 - e) &&& g)
def maj (a b c : Nat) : Nat := (a &&& b) ^^^ (a &&& c) ^^^ (b &&& c)
def K : List Nat := [1116352408, 1899447441, 3049323471, 3921009573, 961987163, 1508970993, 2453635748, 2870763221, 3624381080, 310598401, 607225278, 1426881987, 1925078388, 2162078206, 2614888103, 3248222580, 3835390401, 4022224774, 264347078, 604807628, 770255983, 1249150122, 1555081692, 1996064986, 2554220882, 2821834349, 2952996808, 3210313671, 3336571891, 3584528711, 113926993, 338241895, 666307205, 773529912, 1294757372, 1396182291, 1695183700, 1986661051, 2177026350, 2456956037, 2730485921, 2820302411, 3259730800, 3345764771, 3516065817, 3600352804, 4094571909, 275423344, 430227734, 506948616, 659060556, 883997877, 958139571, 1322822218, 1537002063, 1747873779, 1955562222, 2024104815, 2227730452, 2361852424, 2428436474, 2756734187, 3204031479, 3329325298]

/-! ### a state, a round -/
structure St where
  a : Nat
  b : Nat
  c : Nat
  d : Nat
  e : Nat
  f : Nat
  g : Nat
  h : Nat
def St.l (s : St) : List Nat := [s.a, s.b, s.c, s.d, s.e, s.f, s.g, s.h]
def init : St := ⟨1779033703, 3144134277, 1013904242, 2773480762, 1359893119, 2600822924, 528734635, 1541459225⟩
def tee (s : St) (k w : Nat) : Nat := (s.h + bs1 s.e + cho s.e s.f s.g + k + w) % 4294967296
def you (s : St) : Nat := (bs0 s.a + maj s.a s.b s.c) % 4294967296
def step (s : St) (k w : Nat) : St := ⟨(tee s k w + you s) % 4294967296, s.a, s.b, s.c, (s.d + tee s k w) % 4294967296, s.e, s.f, s.g⟩
def run (s : St) (W : List Nat) : Nat → St
  | 0 => s
  | i + 1 => step (run s W i) (K.getD i 0) (W.getD i 0)
def add32 (x y : Nat) : Nat := (x + y) % 4294967296
def plus (s v : St) : St := ⟨add32 s.a v.a, add32 s.b v.b, add32 s.c v.c, add32 s.d v.d, add32 s.e v.e, add32 s.f v.f, add32 s.g v.g, add32 s.h v.h⟩

/-! ### the words of a block -/
def word (b : Nat → Nat) (i : Nat) : Nat := ((b (4 * i) * 256 + b (4 * i + 1)) * 256 + b (4 * i + 2)) * 256 + b (4 * i + 3)
def next (l : List Nat) : Nat := (l.getD (l.length - 16) 0 + ss0 (l.getD (l.length - 15) 0) + l.getD (l.length - 7) 0 + ss1 (l.getD (l.length - 2) 0)) % 4294967296
def sched (b : Nat → Nat) : Nat → List Nat
  | 0 => (List.range 16).map (word b)
  | n + 1 => sched b n ++ [next (sched b n)]
def comp (s : St) (b : Nat → Nat) : St := plus s (run s (sched b 48) 64)
def part (m : List Nat) (j i : Nat) : Nat := m.getD (64 * j + i) 0
def blk (m : List Nat) : Nat → St
  | 0 => init
  | j + 1 => comp (blk m j) (part m j)

/-! ### what stands behind, the digest -/
def be8 (v : Nat) : List Nat := (List.range 8).map fun i => v / 2 ^ (56 - 8 * i) % 256
def pad (n : Nat) : List Nat := 128 :: (List.replicate ((119 - n % 64) % 64) 0 ++ be8 (8 * n))
def out (s : St) (i : Nat) : Nat := s.l.getD (i / 4) 0 / 2 ^ (24 - 8 * (i % 4)) % 256
def D (l : List Nat) : List Nat := (List.range 32).map (out (blk (l ++ pad l.length) ((l ++ pad l.length).length / 64)))

/-! ### bounds -/
theorem rotr_lt (x n : Nat) (hx : x < 4294967296) : rotr x n < 4294967296 := by
  unfold rotr
  exact Nat.or_lt_two_pow (n := 32) (Nat.lt_of_le_of_lt (Nat.div_le_self _ _) hx) (Nat.mod_lt _ (by decide))
theorem xor_lt {x y : Nat} (hx : x < 4294967296) (hy : y < 4294967296) : x ^^^ y < 4294967296 := Nat.xor_lt_two_pow (n := 32) hx hy
theorem and_lt {x y : Nat} (hx : x < 4294967296) : x &&& y < 4294967296 := Nat.lt_of_le_of_lt Nat.and_le_left hx
def St.ok (s : St) : Prop := s.a < 4294967296 ∧ s.b < 4294967296 ∧ s.c < 4294967296 ∧ s.d < 4294967296 ∧ s.e < 4294967296 ∧ s.f < 4294967296 ∧ s.g < 4294967296 ∧ s.h < 4294967296
theorem init_ok : init.ok := by unfold St.ok init; decide
theorem step_ok {s : St} (h : s.ok) (k w : Nat) : (step s k w).ok := by
  obtain ⟨h1, h2, h3, h4, h5, h6, h7, h8⟩ := h
  exact ⟨Nat.mod_lt _ (by decide), h1, h2, h3, Nat.mod_lt _ (by decide), h5, h6, h7⟩
theorem run_ok {s : St} (h : s.ok) (W : List Nat) : ∀ i, (run s W i).ok
  | 0 => h
  | i + 1 => step_ok (run_ok h W i) _ _
theorem add32_lt (x y : Nat) : add32 x y < 4294967296 := Nat.mod_lt _ (by decide)
theorem plus_ok (s v : St) : (plus s v).ok := ⟨add32_lt _ _, add32_lt _ _, add32_lt _ _, add32_lt _ _, add32_lt _ _, add32_lt _ _, add32_lt _ _, add32_lt _ _⟩
theorem comp_ok (s : St) (b : Nat → Nat) : (comp s b).ok := plus_ok _ _
theorem blk_ok (m : List Nat) : ∀ j, (blk m j).ok
  | 0 => init_ok
  | _ + 1 => comp_ok _ _
theorem l_lt {s : St} (h : s.ok) (i : Nat) : s.l.getD i 0 < 4294967296 := by
  obtain ⟨h1, h2, h3, h4, h5, h6, h7, h8⟩ := h
  match i with
  | 0 => exact h1
  | 1 => exact h2
  | 2 => exact h3
  | 3 => exact h4
  | 4 => exact h5
  | 5 => exact h6
  | 6 => exact h7
  | 7 => exact h8
  | n + 8 => show (0 : Nat) < _; decide
theorem l_len (s : St) : s.l.length = 8 := rfl
theorem word_lt (b : Nat → Nat) (hb : ∀ i, b i < 256) (i : Nat) : word b i < 4294967296 := by
  have := hb (4 * i); have := hb (4 * i + 1); have := hb (4 * i + 2); have := hb (4 * i + 3)
  unfold word; omega
theorem sched_len (b : Nat → Nat) : ∀ n, (sched b n).length = n + 16
  | 0 => by simp [sched]
  | n + 1 => by rw [sched, List.length_append, sched_len b n, List.length_singleton]
theorem sched_lt (b : Nat → Nat) (hb : ∀ i, b i < 256) : ∀ n x, x ∈ sched b n → x < 4294967296
  | 0, x, h => by obtain ⟨i, _, rfl⟩ := List.mem_map.1 h; exact word_lt b hb i
  | n + 1, x, h => by
    rw [sched, List.mem_append] at h
    rcases h with h | h
    · exact sched_lt b hb n x h
    · obtain rfl := List.mem_singleton.1 h; exact Nat.mod_lt _ (by decide)
theorem getD_of_mem {l : List Nat} {p : Nat → Prop} (h : ∀ x ∈ l, p x) (h0 : p 0) (i : Nat) : p (l.getD i 0) := by
  rw [List.getD_eq_getElem?_getD]
  cases e : l[i]? with
  | none => exact h0
  | some x => exact h x (List.mem_of_getElem? e)
theorem sched_get_lt (b : Nat → Nat) (hb : ∀ i, b i < 256) (n i : Nat) : (sched b n).getD i 0 < 4294967296 := getD_of_mem (p := fun x => x < 4294967296) (sched_lt b hb n) (by decide) i
theorem K_lt (i : Nat) : K.getD i 0 < 4294967296 := getD_of_mem (p := fun x => x < 4294967296) (by decide) (by decide) i
theorem K_len : K.length = 64 := by decide

/-! ### what hangs on what -/
theorem word_congr {b b' : Nat → Nat} (h : ∀ i, i < 64 → b i = b' i) (i : Nat) (hi : i < 16) : word b i = word b' i := by
  unfold word
  rw [h _ (by omega), h _ (by omega), h _ (by omega), h _ (by omega)]
theorem sched_congr {b b' : Nat → Nat} (h : ∀ i, i < 64 → b i = b' i) : ∀ n, sched b n = sched b' n
  | 0 => by unfold sched; exact List.map_congr_left fun i hi => word_congr h i (List.mem_range.1 hi)
  | n + 1 => by rw [sched, sched, sched_congr h n]
theorem comp_congr (s : St) {b b' : Nat → Nat} (h : ∀ i, i < 64 → b i = b' i) : comp s b = comp s b' := by
  unfold comp; rw [sched_congr h]
theorem blk_congr {m m' : List Nat} : ∀ j, (∀ i, i < 64 * j → m.getD i 0 = m'.getD i 0) → blk m j = blk m' j
  | 0, _ => rfl
  | j + 1, h => by
    rw [blk, blk, blk_congr j (fun i hi => h i (by omega))]
    exact comp_congr _ fun i hi => h _ (by omega)
theorem pad_len (n : Nat) : (n + (pad n).length) % 64 = 0 := by
  simp [pad, be8]; omega
theorem pad_len_le (n : Nat) : (pad n).length ≤ 72 := by
  simp [pad, be8]; omega
theorem out_lt (s : St) (i : Nat) : out s i < 256 := Nat.mod_lt _ (by decide)
theorem D_len (l : List Nat) : (D l).length = 32 := by simp [D]
theorem D_oct (l : List Nat) : ∀ x ∈ D l, x < 256 := by
  intro x hx
  obtain ⟨i, _, rfl⟩ := List.mem_map.1 hx
  exact out_lt _ _
end Go.Proofs.YtlefdnjokppibaaGreatDoor.Sh.Mt
