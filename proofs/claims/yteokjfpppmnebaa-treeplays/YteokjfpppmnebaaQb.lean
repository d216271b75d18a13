/-
  Trees whose texts are sorted: the search finds the place of a text in the row of all texts.
-/
import Derived.Test.YteokjfpppmnebaaQa
namespace Go.Proofs.Yteokjfpppmnebaa
open Go.RowKit
set_option linter.unusedVariables false
set_option linter.unusedSimpArgs false
def kys (l : Nat) (t : B) : List ByteArray := (ents l t).map (·.1)
theorem kys_nd (l b : Nat) (ks : List KB) : kys (l + 1) (.nd b ks) = ks.flatMap fun p => kys l p.2 := by
  unfold kys
  simp only [ents, List.map_flatMap]
theorem kys_lf (b : Nat) (es : List E) : kys 0 (.lf b es) = es.map (·.1) := rfl
theorem lf_txt (es : List E) : (es.map sE).map (·.t) = es.map (·.1) := by rw [List.map_map]; rfl
theorem nd_txt (ks : List KB) : (ks.map sK).map (·.t) = ks.map (·.1) := by rw [List.map_map]; rfl
theorem hit_iff {ss : List Sl} (hs : Srt (ss.map (·.t))) (k : ByteArray) : hit ss k = true ↔ k ∈ ss.map (·.t) := by
  have e1 := sk_lb hs k
  unfold hit
  rw [Bool.and_eq_true, decide_eq_true_eq, decide_eq_true_eq, tx_zero]
  constructor
  · rintro ⟨h1, h2⟩
    rw [List.mem_map]
    refine ⟨ss.getD (sk ss k) z0, ?_, h2⟩
    rw [List.getD_eq_getElem?_getD, List.getElem?_eq_getElem h1]
    exact List.getElem_mem h1
  · intro h
    obtain ⟨i, hi⟩ := List.getElem?_of_mem h
    have hil : i < ss.length := by have := (List.getElem?_eq_some_iff.1 hi).1; simpa using this
    -- i is not below, and all ahead are
    have h1 : ¬ i < lb (ss.map (·.t)) k := fun q => by
      have := (srt_lb hs k i k hi).2 q
      rw [blt_irr] at this; cases this
    have h2 : i ≤ lb (ss.map (·.t)) k := by
      apply Nat.le_of_not_lt
      intro q
      have hl : lb (ss.map (·.t)) k < (ss.map (·.t)).length := by simp; omega
      have h3 := List.pairwise_iff_getElem.1 hs (lb (ss.map (·.t)) k) i hl (by simpa using hil) q
      rw [(List.getElem?_eq_some_iff.1 hi).2] at h3
      have := (srt_lb hs k _ _ (List.getElem?_eq_getElem hl)).1 h3
      omega
    have h3 : sk ss k = i := by omega
    rw [h3]
    refine ⟨hil, ?_⟩
    rw [List.getElem?_map, List.getElem?_eq_getElem hil] at hi
    rw [List.getD_eq_getElem?_getD, List.getElem?_eq_getElem hil]
    exact Option.some.inj hi
/-- Where the search goes down. -/
theorem und_spec {A D : List KB} {p : KB} {k : ByteArray} (hs : Srt ((A ++ p :: D).map (·.1))) (hu : und ((A ++ p :: D).map sK) k = A.length) : (A = [] ∨ p.1 = k ∨ blt p.1 k = true) ∧ ∀ d ∈ D, blt k d.1 = true := by
  have hs' : Srt (((A ++ p :: D).map sK).map (·.t)) := by rw [nd_txt]; exact hs
  have hlb := sk_lb hs' k
  rw [nd_txt] at hlb
  have hhit := hit_iff hs' k
  rw [nd_txt] at hhit
  have hat : ((A ++ p :: D).map (·.1))[A.length]? = some p.1 := by simp
  have hp := srt_lb hs k A.length p.1 hat
  have hsp : ∀ d ∈ D, blt p.1 d.1 = true := by
    unfold Srt at hs
    rw [List.map_append, List.map_cons, List.pairwise_append, List.pairwise_cons] at hs
    exact fun d hd => hs.2.1.1 d.1 (List.mem_map.2 ⟨d, hd, rfl⟩)
  have hDlb : ∀ d ∈ D, lb ((A ++ p :: D).map (·.1)) k ≤ A.length + 1 → blt d.1 k = false := fun d hd hle => by
    obtain ⟨i, hi⟩ := List.getElem?_of_mem hd
    have hd2 : ((A ++ p :: D).map (·.1))[A.length + 1 + i]? = some d.1 := by
      rw [List.map_append, List.map_cons, List.getElem?_append_right (by simp; omega)]
      simp only [List.length_map]
      rw [show A.length + 1 + i - A.length = i + 1 by omega, List.getElem?_cons_succ, List.getElem?_map, hi]
      rfl
    cases e : blt d.1 k with
    | false => rfl
    | true => have := (srt_lb hs k _ _ hd2).1 e; omega
  unfold und at hu
  by_cases hh : hit ((A ++ p :: D).map sK) k = true
  · rw [if_pos (.inl hh), hlb] at hu
    -- p.1 is not below k and the search hits it
    have hpk : p.1 = k := by
      unfold hit at hh
      rw [Bool.and_eq_true, decide_eq_true_eq, decide_eq_true_eq, tx_zero, hlb, hu] at hh
      have := hh.2
      rw [List.getD_eq_getElem?_getD, List.getElem?_map] at this
      simpa [sK] using this
    exact ⟨.inr (.inl hpk), fun d hd => hpk ▸ hsp d hd⟩
  · have hnm : k ∉ (A ++ p :: D).map (·.1) := fun q => hh (hhit.2 q)
    by_cases h0 : sk ((A ++ p :: D).map sK) k = 0
    · rw [if_pos (.inr h0), hlb] at hu
      rw [hlb] at h0
      have hA : A = [] := List.eq_nil_of_length_eq_zero (by omega)
      refine ⟨.inl hA, fun d hd => ?_⟩
      have hpn : blt p.1 k = false := by
        cases e : blt p.1 k with
        | false => rfl
        | true => have := hp.1 e; omega
      have hpk : blt k p.1 = true := by
        rcases blt_tot p.1 k with h | h | h
        · rw [hpn] at h; cases h
        · exact absurd (by rw [← h]; simp) hnm
        · exact h
      exact blt_trans hpk (hsp d hd)
    · rw [if_neg (fun q => q.elim hh h0), hlb] at hu
      rw [hlb] at h0
      have hpb : blt p.1 k = true := hp.2 (by omega)
      refine ⟨.inr (.inr hpb), fun d hd => ?_⟩
      have hdn := hDlb d hd (by omega)
      rcases blt_tot d.1 k with h | h | h
      · rw [hdn] at h; cases h
      · exact absurd (by rw [← h]; exact List.mem_map.2 ⟨d, by simp [hd], rfl⟩) hnm
      · exact h
/-- The least text is the first one. -/
theorem lt0_first : ∀ {l : Nat} {t : B}, Fit l t → 0 < t.cnt → (kys l t).head? = some t.lt0
  | 0, .lf b es, _, hc => by
    cases es with
    | nil => simp [B.cnt, B.ss] at hc
    | cons e r => rfl
  | l + 1, .nd b ks, hf, hc => by
    cases ks with
    | nil => simp [B.cnt, B.ss] at hc
    | cons p r =>
      obtain ⟨h1, h2, h3⟩ := hf p (by simp)
      have ih := lt0_first h1 (by omega)
      rw [kys_nd, List.flatMap_cons]
      have e : B.lt0 (.nd b (p :: r)) = p.1 := rfl
      rw [e, h3]
      cases hk : kys l p.2 with
      | nil => rw [hk] at ih; cases ih
      | cons x q => rw [hk] at ih; simpa using ih
theorem kys_first {l : Nat} {p : KB} (h1 : Fit l p.2) (h2 : 8 ≤ p.2.cnt) (h3 : p.1 = p.2.lt0) : ∃ q, kys l p.2 = p.1 :: q := by
  have := lt0_first h1 (by omega)
  rw [← h3] at this
  cases hk : kys l p.2 with
  | nil => rw [hk] at this; cases this
  | cons x q => rw [hk] at this; exact ⟨q, by simpa using this⟩
theorem srt_kids {l : Nat} : ∀ {ks : List KB}, (∀ p ∈ ks, Fit l p.2 ∧ 8 ≤ p.2.cnt ∧ p.1 = p.2.lt0) → Srt (ks.flatMap fun p => kys l p.2) → Srt (ks.map (·.1))
  | [], _, _ => List.Pairwise.nil
  | p :: r, hk, hs => by
    unfold Srt at hs ⊢
    rw [List.flatMap_cons, List.pairwise_append] at hs
    obtain ⟨h1, h2, h3⟩ := hs
    rw [List.map_cons, List.pairwise_cons]
    refine ⟨fun a ha => ?_, srt_kids (fun q hq => hk q (by simp [hq])) h2⟩
    obtain ⟨q, hq, rfl⟩ := List.mem_map.1 ha
    obtain ⟨f1, f2, f3⟩ := hk p (by simp)
    obtain ⟨g1, g2, g3⟩ := hk q (by simp [hq])
    obtain ⟨x, ex⟩ := kys_first f1 f2 f3
    obtain ⟨y, ey⟩ := kys_first g1 g2 g3
    exact h3 p.1 (by rw [ex]; simp) q.1 (List.mem_flatMap.2 ⟨q, hq, by rw [ey]; simp⟩)
theorem srt_mid {X Y Z : List ByteArray} (h : Srt (X ++ (Y ++ Z))) : Srt Y ∧ (∀ x ∈ X, ∀ y ∈ Y, blt x y = true) ∧ (∀ y ∈ Y, ∀ z ∈ Z, blt y z = true) := by
  unfold Srt at h ⊢
  rw [List.pairwise_append, List.pairwise_append] at h
  exact ⟨h.2.1.1, fun x hx y hy => h.2.2 x hx y (by simp [hy]), h.2.1.2.2⟩
theorem le_first {x : ByteArray} {q : List ByteArray} (h : Srt (x :: q)) {a : ByteArray} (ha : a ∈ x :: q) : x = a ∨ blt x a = true := by
  unfold Srt at h
  rw [List.pairwise_cons] at h
  rcases List.mem_cons.1 ha with rfl | ha
  · exact .inl rfl
  · exact .inr (h.1 a ha)
/-- The search's way down through a node: what is ahead is below, what is behind is above. -/
theorem way_down {l b : Nat} {A D : List KB} {p : KB} {k : ByteArray} (hf : Fit (l + 1) (.nd b (A ++ p :: D))) (hs : Srt (kys (l + 1) (.nd b (A ++ p :: D)))) (hu : und ((A ++ p :: D).map sK) k = A.length) :
    Srt (kys l p.2) ∧ (∀ a ∈ A.flatMap fun p => kys l p.2, blt a k = true) ∧ (∀ a ∈ D.flatMap fun p => kys l p.2, blt k a = true) := by
  rw [kys_nd] at hs
  have hk := srt_kids hf hs
  obtain ⟨u1, u2⟩ := und_spec hk hu
  rw [List.flatMap_append, List.flatMap_cons] at hs
  obtain ⟨s1, s2, s3⟩ := srt_mid hs
  obtain ⟨f1, f2, f3⟩ := hf p (by simp)
  obtain ⟨x, ex⟩ := kys_first f1 f2 f3
  refine ⟨s1, fun a ha => ?_, fun a ha => ?_⟩
  · have hap : blt a p.1 = true := s2 a ha p.1 (by rw [ex]; simp)
    rcases u1 with rfl | u1 | u1
    · simp at ha
    · rw [← u1]; exact hap
    · exact blt_trans hap u1
  · obtain ⟨d, hd, had⟩ := List.mem_flatMap.1 ha
    obtain ⟨g1, g2, g3⟩ := hf d (by simp [hd])
    obtain ⟨y, ey⟩ := kys_first g1 g2 g3
    have hsd : Srt (kys l d.2) := by
      obtain ⟨D1, D2, rfl⟩ := List.append_of_mem hd
      unfold Srt at hs
      rw [List.pairwise_append, List.pairwise_append, List.flatMap_append, List.flatMap_cons, List.pairwise_append, List.pairwise_append] at hs
      exact hs.2.1.2.1.2.1.1
    rw [ey] at had hsd
    have hkd := u2 d hd
    rcases le_first hsd had with e | e
    · rw [← e]; exact hkd
    · exact blt_trans hkd e
/-- The place is the number of texts that are below. -/
theorem pos_lb : ∀ {l : Nat} {t : B}, Ok l t → Srt (kys l t) → ∀ k, pos l t k = lb (kys l t) k
  | 0, .lf b es, ho, hs, k => by
    rw [kys_lf] at hs ⊢
    have := sk_lb (ss := es.map sE) (by rw [lf_txt]; exact hs) k
    rw [lf_txt] at this
    exact this
  | 0, .nd b ks, ho, hs, k => absurd ho.fit (by simp [Fit])
  | l + 1, .lf b es, ho, hs, k => absurd ho.fit (by simp [Fit])
  | l + 1, .nd b ks, ho, hs, k => by
    obtain ⟨A, p, D, rfl, hu, hop, hc, ht⟩ := ho.cut k
    obtain ⟨s1, s2, s3⟩ := way_down ho.fit hs hu
    rw [pos_at hu, pos_lb hop s1 k, kys_nd, List.flatMap_append, List.flatMap_cons, lb_app, lb_app, lb_all s2, lb_none (ks := D.flatMap fun p => kys l p.2) (fun a ha => blt_asym (s3 a ha))]
    have e : (A.flatMap fun p => ents l p.2).length = (A.flatMap fun p => kys l p.2).length := by
      simp [List.length_flatMap, kys]
    omega
/-- Whether the search hits says whether the text is there. -/
theorem hit_kys : ∀ {l : Nat} {t : B}, Ok l t → Srt (kys l t) → ∀ k, (∃ b es, lfn l t k = .lf b es ∧ (hit (es.map sE) k = true ↔ k ∈ kys l t))
  | 0, .lf b es, ho, hs, k => by
    refine ⟨b, es, rfl, ?_⟩
    rw [kys_lf] at hs ⊢
    rw [hit_iff (by rw [lf_txt]; exact hs), lf_txt]
  | 0, .nd b ks, ho, hs, k => absurd ho.fit (by simp [Fit])
  | l + 1, .lf b es, ho, hs, k => absurd ho.fit (by simp [Fit])
  | l + 1, .nd b ks, ho, hs, k => by
    obtain ⟨A, p, D, rfl, hu, hop, hc, ht⟩ := ho.cut k
    obtain ⟨s1, s2, s3⟩ := way_down ho.fit hs hu
    obtain ⟨b', es, e1, e2⟩ := hit_kys hop s1 k
    refine ⟨b', es, by rw [lfn_at hu]; exact e1, ?_⟩
    rw [e2, kys_nd, List.flatMap_append, List.flatMap_cons, List.mem_append, List.mem_append]
    constructor
    · exact fun h => .inr (.inl h)
    · rintro (h | h | h)
      · have := s2 k h; rw [blt_irr] at this; cases this
      · exact h
      · have := s3 k h; rw [blt_irr] at this; cases this
/-- A row stays sorted where a new text is laid in its place. -/
theorem srt_put {ks : List ByteArray} {k : ByteArray} (hs : Srt ks) (hn : k ∉ ks) : Srt (ks.take (lb ks k) ++ k :: ks.drop (lb ks k)) := by
  have h1 : ∀ a ∈ ks.take (lb ks k), blt a k = true := fun a ha => by
    obtain ⟨i, hi⟩ := List.getElem?_of_mem ha
    have hil := (List.getElem?_eq_some_iff.1 hi).1
    rw [List.length_take] at hil
    rw [List.getElem?_take_of_lt (by omega)] at hi
    exact (srt_lb hs k i a hi).2 (by omega)
  have h2 : ∀ a ∈ ks.drop (lb ks k), blt k a = true := fun a ha => by
    obtain ⟨i, hi⟩ := List.getElem?_of_mem ha
    rw [List.getElem?_drop] at hi
    have hnl : blt a k = false := by
      cases e : blt a k with
      | false => rfl
      | true => have := (srt_lb hs k _ a hi).1 e; omega
    rcases blt_tot a k with h | h | h
    · rw [hnl] at h; cases h
    · exact absurd (h ▸ List.mem_of_getElem? hi) hn
    · exact h
  have h3 : Srt (ks.take (lb ks k) ++ ks.drop (lb ks k)) := by rw [List.take_append_drop]; exact hs
  unfold Srt at h3 ⊢
  rw [List.pairwise_append] at h3 ⊢
  obtain ⟨p1, p2, p3⟩ := h3
  refine ⟨p1, List.pairwise_cons.2 ⟨h2, p2⟩, fun a ha b hb => ?_⟩
  rcases List.mem_cons.1 hb with rfl | hb
  · exact h1 a ha
  · exact p3 a ha b hb
#print axioms pos_lb
#print axioms hit_kys
#print axioms srt_put
end Go.Proofs.Yteokjfpppmnebaa
