/-
  Range and Back of any tree; the names of TreeMany.
-/
import Derived.Test.YteokjfpppmnebaaIg
import Derived.Test.YteokjfpppmnebaaIi
import Derived.Test.YteokjfpppmnebaaQf
import Derived.Laws.BytesArg
namespace Go.Proofs.Yteokjfpppmnebaa
open Go.RowKit Go.Shelf
set_option linter.unusedVariables false
set_option linter.unusedSimpArgs false
theorem grown_none {w w' : World} (g : w.grownBy w' none) (row : Option Nat) : w.grownBy w' row := ⟨g.os, g.tape, g.output, g.size, fun k hk _ => g.block k hk (by simp)⟩
theorem read_nil (g n nd : Nat) (f : Value) (w : World) (h : Blk w g 55 (tC none n nd)) : Calls Try.prog 35 #[.pointer (some ⟨g, 0, none⟩), f] w fun e w' => e = .returned (.tuple #[]) ∧ w' = w := by
  have c0 : w.cell? ⟨g, 0, none⟩ = some (.pointer none) := h.cell 0
  clear h
  go_enter Try.func35, Try.ntmps35
  go_wp2
  exact bodyPost_ret (results_none rfl _ _ _) rfl ⟨rfl, rfl⟩
theorem range_givesN (g r b3 b4 b5 : Nat) (frm to : ByteArray) (N : Nat → Prop) (w0 : World) (hg : Blk w0 g 55 (tC none 0 0)) (hc : Cap w0 b3 b4 b5 (some ⟨g, 0, none⟩) frm to) (hNg : N g) (hN3 : N b3) :
    Gives 34 #[.pointer (some ⟨b3, 0, none⟩), .pointer (some ⟨b4, 0, none⟩), .pointer (some ⟨b5, 0, none⟩)] r N w0 [] := by
  intro m lp J Jx W hW hJ hJx hY h0
  have hgW := hg.kp hW hNg
  have c3 := hc.t.kp hW hN3
  have HF : Hid (∀ w', W.grownBy w' none → Kp N w0 w' ∧ J W.heap.size [] w') := fun w' q => ⟨hW.trans (Kp.of_grown q (by simp)), hJ _ _ _ _ (h0 _ (Nat.le_refl _)) (grown_none q _)⟩
  clear hg hc hNg hN3 hW hJ hJx hY h0
  refine callsIn_wide.2 ?_
  show Calls _ _ #[.func (.yield lp) #[] #[], .pointer (some ⟨b3, 0, none⟩), .pointer (some ⟨b4, 0, none⟩), .pointer (some ⟨b5, 0, none⟩)] _ _
  go_enter Try.func34, Try.ntmps34
  go_wp2_with (refine al_boxv rfl 51 (.tmp 0) rfl (.func (.yield lp) #[] #[]) rfl rfl ?_)
  intro b6 w1 l6 B6 G1
  have K := read_nil g 0 0 (.func (.func 36) #[] #[.pointer (some ⟨b4, 0, none⟩), .pointer (some ⟨b5, 0, none⟩), .pointer (some ⟨b6, 0, none⟩)]) w1 (hgW.kept G1 (by simp))
  have d3 : w1.cell? ⟨b3, 0, none⟩ = some (.pointer (some ⟨g, 0, none⟩)) := (c3.kept G1 (by simp)).cell 0
  have HE := HF.out w1 G1
  have HE' : Hid (Kp N w0 w1 ∧ J W.heap.size [] w1) := HE
  clear HF c3 B6 G1 HE hgW
  go_wp2_with fail
  refine K.mono ?_
  rintro e w' ⟨rfl, rfl⟩
  clear K
  go_wp2
  go_end0
  exact ⟨⟨_, rfl⟩, HE'.out.1, _, .inl HE'.out.2⟩
theorem back_givesN (g r b3 b4 b5 : Nat) (frm to : ByteArray) (N : Nat → Prop) (w0 : World) (hg : Blk w0 g 55 (tC none 0 0)) (hc : Cap w0 b3 b4 b5 (some ⟨g, 0, none⟩) frm to) (hNg : N g) (hN3 : N b3) :
    Gives 38 #[.pointer (some ⟨b3, 0, none⟩), .pointer (some ⟨b4, 0, none⟩), .pointer (some ⟨b5, 0, none⟩)] r N w0 [] := by
  intro m lp J Jx W hW hJ hJx hY h0
  have hgW := hg.kp hW hNg
  have c3 := hc.t.kp hW hN3
  have HF : Hid (∀ w', W.grownBy w' none → Kp N w0 w' ∧ J W.heap.size [] w') := fun w' q => ⟨hW.trans (Kp.of_grown q (by simp)), hJ _ _ _ _ (h0 _ (Nat.le_refl _)) (grown_none q _)⟩
  clear hg hc hNg hN3 hW hJ hJx hY h0
  refine callsIn_wide.2 ?_
  show Calls _ _ #[.func (.yield lp) #[] #[], .pointer (some ⟨b3, 0, none⟩), .pointer (some ⟨b4, 0, none⟩), .pointer (some ⟨b5, 0, none⟩)] _ _
  go_enter Try.func38, Try.ntmps38
  go_wp2_with (refine al_boxv rfl 51 (.tmp 0) rfl (.func (.yield lp) #[] #[]) rfl rfl ?_)
  intro b6 w1 l6 B6 G1
  have K := read_nil g 0 0 (.func (.func 39) #[] #[.pointer (some ⟨b4, 0, none⟩), .pointer (some ⟨b5, 0, none⟩), .pointer (some ⟨b6, 0, none⟩)]) w1 (hgW.kept G1 (by simp))
  have d3 : w1.cell? ⟨b3, 0, none⟩ = some (.pointer (some ⟨g, 0, none⟩)) := (c3.kept G1 (by simp)).cell 0
  have HE := HF.out w1 G1
  have HE' : Hid (Kp N w0 w1 ∧ J W.heap.size [] w1) := HE
  clear HF c3 B6 G1 HE hgW
  go_wp2_with fail
  refine K.mono ?_
  rintro e w' ⟨rfl, rfl⟩
  clear K
  go_wp2
  go_end0
  exact ⟨⟨_, rfl⟩, HE'.out.1, _, .inl HE'.out.2⟩
/-! ### what a range hands on of a sorted list -/
def rngL (M : List E) (fr to : ByteArray) : List E := M.filter fun e => !blt e.1 fr && (to.toList.isEmpty || blt e.1 to)
theorem rng_app (a b : List E) (fr to : ByteArray) : rngL (a ++ b) fr to = rngL a fr to ++ rngL b fr to := by unfold rngL; rw [List.filter_append]
theorem drop_lb : ∀ {M : List E}, Srt (ksL M) → ∀ k, M.drop (lb (ksL M) k) = M.filter fun e => !blt e.1 k
  | [], _, k => by simp
  | e :: r, hs, k => by
    have hr : Srt (ksL r) := (List.pairwise_cons.1 hs).2
    by_cases h : blt e.1 k = true
    · have e1 : lb (ksL (e :: r)) k = lb (ksL r) k + 1 := by unfold lb; simp [h]
      rw [e1, List.drop_succ_cons, drop_lb hr k, List.filter_cons]
      simp [h]
    · have h' : blt e.1 k = false := by simpa using h
      have hall : ∀ a ∈ e :: r, blt a.1 k = false := fun a ha => by
        cases q : blt a.1 k with
        | false => rfl
        | true =>
          rcases List.mem_cons.1 ha with rfl | ha
          · rw [h'] at q; cases q
          · have := (List.pairwise_cons.1 hs).1 a.1 (List.mem_map.2 ⟨a, ha, rfl⟩)
            rw [blt_trans this q] at h'
            cases h'
      have e1 : lb (ksL (e :: r)) k = 0 := lb_none (fun a ha => by
        obtain ⟨x, hx, rfl⟩ := List.mem_map.1 ha
        exact hall x hx)
      rw [e1, List.drop_zero, List.filter_eq_self.2 (fun a ha => by rw [hall a ha]; rfl)]
theorem upto_srt (to : ByteArray) : ∀ {M : List E}, Srt (ksL M) → upto to M = M.filter fun e => to.toList.isEmpty || blt e.1 to
  | [], _ => rfl
  | e :: r, hs => by
    have hr : Srt (ksL r) := (List.pairwise_cons.1 hs).2
    cases h : over to e.1 with
    | true =>
      rw [upto_stop h]
      unfold over at h
      rw [Bool.and_eq_true, Bool.not_eq_true', Bool.not_eq_true'] at h
      refine (List.filter_eq_nil_iff.2 fun a ha => ?_).symm
      rw [h.1]
      have : blt a.1 to = false := by
        cases q : blt a.1 to with
        | false => rfl
        | true =>
          rcases List.mem_cons.1 ha with rfl | ha
          · rw [h.2] at q; cases q
          · have h3 := (List.pairwise_cons.1 hs).1 a.1 (List.mem_map.2 ⟨a, ha, rfl⟩)
            have h4 := h.2
            rw [blt_trans h3 q] at h4
            cases h4
      rw [this]
      simp
    | false =>
      rw [upto_go h, upto_srt to hr, List.filter_cons]
      unfold over at h
      have : (to.toList.isEmpty || blt e.1 to) = true := by
        cases h1 : to.toList.isEmpty <;> cases h2 : blt e.1 to <;> simp_all
      rw [if_pos this]
theorem rng_eq {M : List E} (hs : Srt (ksL M)) (fr to : ByteArray) : upto to (M.drop (lb (ksL M) fr)) = rngL M fr to := by
  have h1 : Srt (ksL (M.drop (lb (ksL M) fr))) := List.Pairwise.sublist ((List.drop_sublist _ M).map _) hs
  rw [upto_srt to h1, drop_lb hs, List.filter_filter]
  unfold rngL
  congr 1
  funext e
  rw [Bool.and_comm]
theorem dnto_rev (fr : ByteArray) : ∀ {M : List E}, Srt (ksL M) → dnto fr M.reverse = (M.filter fun e => !blt e.1 fr).reverse := by
  intro M hs
  have h1 := drop_lb hs fr
  rw [← h1]
  have h2 : ∀ e ∈ M.take (lb (ksL M) fr), blt e.1 fr = true := fun e he => by
    obtain ⟨i, hi⟩ := List.getElem?_of_mem he
    have hil : i < lb (ksL M) fr := by have := (List.getElem?_eq_some_iff.1 hi).1; rw [List.length_take] at this; omega
    rw [List.getElem?_take_of_lt hil] at hi
    exact (srt_lb hs fr i e.1 (by rw [List.getElem?_map, hi]; rfl)).2 hil
  have h3 : ∀ e ∈ M.drop (lb (ksL M) fr), blt e.1 fr = false := fun e he => by
    rw [h1] at he
    have := (List.mem_filter.1 he).2
    simpa using this
  conv => lhs; rw [← List.take_append_drop (lb (ksL M) fr) M, List.reverse_append]
  generalize M.take (lb (ksL M) fr) = A at *
  generalize M.drop (lb (ksL M) fr) = D at *
  unfold dnto
  rw [List.takeWhile_append_of_pos (fun e he => by rw [h3 e (List.mem_reverse.1 he)]; rfl)]
  have : A.reverse.takeWhile (fun e => !blt e.1 fr) = [] := by
    cases hA : A.reverse with
    | nil => rfl
    | cons x r =>
      have hx : blt x.1 fr = true := h2 x (List.mem_reverse.1 (by rw [hA]; simp))
      rw [List.takeWhile_cons, hx]
      rfl
  rw [this, List.append_nil]
/-- What is under a node up to a text is what is below that. -/
theorem fl_eq (to : ByteArray) : ∀ {l : Nat} {t : B}, Ok l t → Srt (kys l t) → fl to l t = ((ents l t).filter fun e => to.toList.isEmpty || blt e.1 to).reverse
  | 0, .nd _ _, ho, _ => ho.fit.elim
  | _ + 1, .lf _ _, ho, _ => ho.fit.elim
  | 0, .lf b es, ho, hs => by
    show (es.take (endp to (es.map sE))).reverse = _
    congr 1
    unfold endp
    cases h : to.toList.isEmpty with
    | true =>
      simp only [List.length_map, ents, Bool.true_or]
      rw [List.take_length]
      exact (List.filter_eq_self.2 (fun _ _ => rfl)).symm
    | false =>
      have hs' : Srt (es.map (·.1)) := hs
      have e1 := sk_lb (ss := es.map sE) (by rw [lf_txt]; exact hs') to
      rw [lf_txt] at e1
      simp only [Bool.false_or]
      rw [e1]
      show es.take (lb (ksL es) to) = es.filter _
      have h1 := drop_lb (M := es) hs' to
      have h2 : ∀ e ∈ es.take (lb (ksL es) to), blt e.1 to = true := fun e he => by
        obtain ⟨i, hi⟩ := List.getElem?_of_mem he
        have hil : i < lb (ksL es) to := by have := (List.getElem?_eq_some_iff.1 hi).1; rw [List.length_take] at this; omega
        rw [List.getElem?_take_of_lt hil] at hi
        exact (srt_lb hs' to i e.1 (by rw [List.getElem?_map, hi]; rfl)).2 hil
      have h3 : ∀ e ∈ es.drop (lb (ksL es) to), blt e.1 to = false := fun e he => by
        rw [h1] at he
        have := (List.mem_filter.1 he).2
        simpa using this
      conv => rhs; rw [← List.take_append_drop (lb (ksL es) to) es, List.filter_append]
      rw [List.filter_eq_self.2 (fun e he => h2 e he), List.filter_eq_nil_iff.2 (fun e he => by rw [h3 e he]; simp), List.append_nil]
  | l + 1, .nd b ks, ho, hs => by
    have hks : Srt (ks.map (·.1)) := srt_kids ho.fit (by rw [kys_nd] at hs; exact hs)
    have hkid : ∀ p ∈ ks, Ok l p.2 ∧ Srt (kys l p.2) ∧ ∃ q, kys l p.2 = p.1 :: q := fun p hp => by
      obtain ⟨f1, f2, f3⟩ := ho.fit p hp
      obtain ⟨A, D, rfl⟩ := List.append_of_mem hp
      rw [kys_nd, List.flatMap_append, List.flatMap_cons] at hs
      exact ⟨ho.kid hp, (srt_mid hs).1, kys_first f1 f2 f3⟩
    show ((ks.take (endp to (ks.map sK))).reverse.flatMap fun p => fl to l p.2) = _
    have hstep : ∀ L : List KB, (∀ p ∈ L, p ∈ ks) → (L.reverse.flatMap fun p => fl to l p.2) = ((L.flatMap fun p => ents l p.2).filter fun e => to.toList.isEmpty || blt e.1 to).reverse := by
      intro L
      induction L with
      | nil => intro _; rfl
      | cons p r ih =>
        intro hL
        rw [List.reverse_cons, List.flatMap_append, ih (fun q hq => hL q (by simp [hq]))]
        simp only [List.flatMap_cons, List.flatMap_nil, List.append_nil, List.filter_append, List.reverse_append]
        congr 1
        exact fl_eq to (hkid p (hL p (by simp))).1 (hkid p (hL p (by simp))).2.1
    rw [hstep _ (fun p hp => List.mem_of_mem_take hp)]
    congr 1
    show _ = (ks.flatMap fun p => ents l p.2).filter _
    unfold endp
    cases h : to.toList.isEmpty with
    | true => simp [List.length_map, List.filter_eq_self]
    | false =>
      simp only [Bool.false_or]
      have e1 := sk_lb (ss := ks.map sK) (by rw [nd_txt]; exact hks) to
      rw [nd_txt] at e1
      rw [e1]
      conv => rhs; rw [← List.take_append_drop (lb (ks.map (·.1)) to) ks, List.flatMap_append, List.filter_append]
      have h3 : ((ks.drop (lb (ks.map (·.1)) to)).flatMap fun p => ents l p.2).filter (fun e => blt e.1 to) = [] := by
        refine List.filter_eq_nil_iff.2 fun e he => ?_
        obtain ⟨p, hp, hep⟩ := List.mem_flatMap.1 he
        obtain ⟨i, hi⟩ := List.getElem?_of_mem hp
        rw [List.getElem?_drop] at hi
        have hpn : blt p.1 to = false := by
          cases q : blt p.1 to with
          | false => rfl
          | true =>
            have := (srt_lb hks to _ p.1 (by rw [List.getElem?_map, hi]; rfl)).1 q
            omega
        obtain ⟨_, hsp, q, hq⟩ := hkid p (List.mem_of_mem_drop hp)
        have hek : e.1 ∈ kys l p.2 := List.mem_map.2 ⟨e, hep, rfl⟩
        rw [hq] at hek hsp
        rcases le_first hsp hek with h5 | h5
        · rw [← h5, hpn]; simp
        · intro h6
          rw [blt_trans h5 h6] at hpn
          cases hpn
      rw [h3, List.append_nil]
theorem back_eq (fr to : ByteArray) {l : Nat} {t : B} (ho : Ok l t) (hs : Srt (kys l t)) : dnto fr (fl to l t) = (rngL (ents l t) fr to).reverse := by
  rw [fl_eq to ho hs]
  have h1 : Srt (ksL ((ents l t).filter fun e => to.toList.isEmpty || blt e.1 to)) := List.Pairwise.sublist ((List.filter_sublist).map _) hs
  rw [dnto_rev fr h1, List.filter_filter]
  rfl
theorem conv_three (W : World) (x y z : Int) (hx : 0 ≤ x ∧ x < 256) (hy : 0 ≤ y ∧ y < 256) (hz : 0 ≤ z ∧ z < 256) : (convert 43 9 (.slice (some ⟨W.heap.size, 0, none⟩) 3 3)).run Try.prog (W.alloc (.cells #[.int .u8 x, .int .u8 y, .int .u8 z] 5)) = .ok (.string (strOfNums [x, y, z])) (W.alloc (.cells #[.int .u8 x, .int .u8 y, .int .u8 z] 5)) := by
  have B : Blk (W.alloc (.cells #[.int .u8 x, .int .u8 y, .int .u8 z] 5)) W.heap.size 5 [.int .u8 x, .int .u8 y, .int .u8 z] := blk_new W 5 [.int .u8 x, .int .u8 y, .int .u8 z]
  have h := run_convert_bytes_arg (P := Try.prog) (W.alloc (.cells #[.int .u8 x, .int .u8 y, .int .u8 z] 5)) 43 5 Try.underlying43 Try.underlying5 W.heap.size 0 3 3 [x, y, z] rfl (fun i hi => by
    match i, hi with
    | 0, _ => exact B.cell 0
    | 1, _ => exact B.cell 1
    | 2, _ => exact B.cell 2) 9 Try.underlying9
  exact h
theorem name_ex (z : Int) : ∃ s : ByteArray, s.size ≤ 281474976710656 ∧ ∀ w, Calls Try.prog 19 #[.int .i64 z] w fun e w' => e = .returned (.string s) ∧ Hid (Below w.heap.size w w') := by
  refine ⟨strOfNums [z / 65536 % 256, z / 256 % 256, z % 256], by rw [strOfNums_size]; show 3 ≤ _; decide, fun w => ?_⟩
  have HC := conv_three w (z / 65536 % 256) (z / 256 % 256) (z % 256) (by omega) (by omega) (by omega)
  have HZ : Hid (Below w.heap.size w (w.alloc (.cells #[.int .u8 (z / 65536 % 256), .int .u8 (z / 256 % 256), .int .u8 (z % 256)] 5))) := (Below.refl _ _).alloc (Nat.le_refl _) _
  go_enter Try.func19, Try.ntmps19
  go_wp2
  go_ret
  exact ⟨rfl, HZ.out⟩
#print axioms back_eq
end Go.Proofs.Yteokjfpppmnebaa
