/-
  Put, Get and Delete of a tree whose texts are sorted: as of a plain sorted list.
-/
import Derived.Test.YteokjfpppmnebaaIh
import Derived.Test.YteokjfpppmnebaaPp
namespace Go.Proofs.Yteokjfpppmnebaa
open Go.RowKit
set_option linter.unusedVariables false
set_option linter.unusedSimpArgs false
abbrev ksL (M : List E) : List ByteArray := M.map (·.1)
/-- What a list has under a text. -/
def GetL (M : List E) (k : ByteArray) (old : Int) (is : Bool) : Prop := (is = true ∧ M[lb (ksL M) k]? = some (k, old)) ∨ (is = false ∧ k ∉ ksL M ∧ old = 0)
def putL (M : List E) (k : ByteArray) (x : Int) : Bool → List E
  | true => M.set (lb (ksL M) k) (k, x)
  | false => M.take (lb (ksL M) k) ++ (k, x) :: M.drop (lb (ksL M) k)
def delL (M : List E) (k : ByteArray) : Bool → List E
  | true => M.eraseIdx (lb (ksL M) k)
  | false => M
theorem mem_get {M : List E} {k : ByteArray} (hs : Srt (ksL M)) (h : k ∈ ksL M) : ∃ old, M[lb (ksL M) k]? = some (k, old) := by
  have h1 := mem_lb hs h
  rw [List.getElem?_map] at h1
  cases hm : M[lb (ksL M) k]? with
  | none => rw [hm] at h1; cases h1
  | some e =>
    rw [hm] at h1
    injection h1 with h1
    exact ⟨e.2, by rw [← h1]⟩
theorem getL_ex {M : List E} (hs : Srt (ksL M)) (k : ByteArray) : ∃ old is, GetL M k old is := by
  by_cases h : k ∈ ksL M
  · obtain ⟨old, e⟩ := mem_get hs h
    exact ⟨old, true, .inl ⟨rfl, e⟩⟩
  · exact ⟨0, false, .inr ⟨rfl, h, rfl⟩⟩
theorem GetL.mem {M : List E} {k : ByteArray} {old : Int} {is : Bool} (h : GetL M k old is) : is = true ↔ k ∈ ksL M := by
  rcases h with ⟨rfl, h⟩ | ⟨rfl, h, _⟩
  · exact ⟨fun _ => List.mem_map.2 ⟨_, List.mem_of_getElem? h, rfl⟩, fun _ => rfl⟩
  · exact ⟨(fun q => by cases q), fun q => absurd q h⟩
theorem putL_srt {M : List E} {k : ByteArray} {old : Int} {is : Bool} (hs : Srt (ksL M)) (h : GetL M k old is) (x : Int) : Srt (ksL (putL M k x is)) := by
  rcases h with ⟨rfl, h⟩ | ⟨rfl, h, _⟩
  · show Srt ((M.set _ _).map (·.1))
    rw [kys_set (e' := (k, x)) h rfl]
    exact hs
  · exact srt_ins k x hs h
theorem delL_srt {M : List E} {k : ByteArray} (is : Bool) (hs : Srt (ksL M)) : Srt (ksL (delL M k is)) := by
  cases is with
  | true => exact srt_del _ hs
  | false => exact hs
theorem putL_mem {M : List E} {k : ByteArray} {old : Int} {is : Bool} (h : GetL M k old is) (x : Int) (a : ByteArray) : a ∈ ksL (putL M k x is) ↔ a = k ∨ a ∈ ksL M := by
  rcases h with ⟨rfl, h⟩ | ⟨rfl, h, _⟩
  · show a ∈ (M.set _ _).map (·.1) ↔ _
    rw [kys_set (e' := (k, x)) h rfl]
    refine ⟨.inr, fun q => q.elim (fun e => ?_) id⟩
    subst e
    exact List.mem_map.2 ⟨_, List.mem_of_getElem? h, rfl⟩
  · show a ∈ (M.take _ ++ (k, x) :: M.drop _).map (·.1) ↔ _
    rw [List.map_append, List.map_cons, List.mem_append, List.mem_cons]
    have : a ∈ ksL M ↔ a ∈ (M.take (lb (ksL M) k)).map (·.1) ∨ a ∈ (M.drop (lb (ksL M) k)).map (·.1) := by
      rw [← List.mem_append, ← List.map_append, List.take_append_drop]
    rw [this]
    constructor
    · rintro (h | h | h)
      · exact .inr (.inl h)
      · exact .inl h
      · exact .inr (.inr h)
    · rintro (h | h | h)
      · exact .inr (.inl h)
      · exact .inl h
      · exact .inr (.inr h)
theorem delL_mem {M : List E} {k : ByteArray} {old : Int} {is : Bool} (hs : Srt (ksL M)) (h : GetL M k old is) {a : ByteArray} (ha : a ∈ ksL (delL M k is)) : a ∈ ksL M ∧ a ≠ k := by
  rcases h with ⟨rfl, h⟩ | ⟨rfl, h, _⟩
  · have e : ksL (delL M k true) = (ksL M).eraseIdx (lb (ksL M) k) := by
      simp [delL, List.eraseIdx_eq_take_drop_succ, List.map_take, List.map_drop]
    rw [e] at ha
    refine ⟨(List.eraseIdx_sublist _ _).subset ha, fun q => ?_⟩
    subst q
    obtain ⟨j, hj, hja⟩ := List.mem_iff_getElem.1 ha
    have h1 : (ksL M)[lb (ksL M) a]? = some a := by rw [List.getElem?_map, h]; rfl
    obtain ⟨h2, h3⟩ := List.getElem?_eq_some_iff.1 h1
    have key : ∀ (i : Nat) (hi : i < (ksL M).length), (ksL M)[i] = a → i = lb (ksL M) a := fun i hi hia => by
      rcases Nat.lt_trichotomy i (lb (ksL M) a) with q | q | q
      · have := List.pairwise_iff_getElem.1 hs i _ hi h2 q
        rw [hia, h3, blt_irr] at this; cases this
      · exact q
      · have := List.pairwise_iff_getElem.1 hs _ i h2 hi q
        rw [hia, h3, blt_irr] at this; cases this
    rw [List.getElem_eraseIdx] at hja
    split at hja
    · have := key _ _ hja; omega
    · have := key _ _ hja; omega
  · exact ⟨ha, fun q => h (q ▸ ha)⟩
/-- A tree in memory with the list of its texts. -/
structure TreeS (w : World) (g : Nat) (T : Option (Nat × B)) (M : List E) : Prop where
  tm : TreeO w g T
  ent : entO T = M
  srt : Srt (ksL M)
theorem TreeS.upd {w w' : World} {g : Nat} {T : Option (Nat × B)} {M : List E} {S : List Nat} (h : TreeS w g T M) (u : Upd S w w') (hg : g ∉ S) (hS : ∀ x ∈ fpO T, x ∉ S) : TreeS w' g T M := by
  refine ⟨?_, h.ent, h.srt⟩
  have ht := h.tm
  cases T with
  | none => exact Blk.upd ht u hg
  | some x => exact TreeM.upd ht u hg hS
/-- What stands at the search's place in the leaf stands at the text's place in the list. -/
theorem at_pos {l : Nat} {t : B} {k : ByteArray} {b : Nat} {es : List E} (ho : Ok l t) (hl : lfn l t k = .lf b es) (h : sk (es.map sE) k < es.length) : (ents l t)[pos l t k]? = es[sk (es.map sE) k]? := by
  obtain ⟨X, b', es', Y, e1, e2, e3⟩ := way k ho
  rw [hl] at e2
  injection e2 with q1 q2
  subst q1 q2
  rw [ents_leaves, e1, e3, lfes_app, lfes_cons, List.getElem?_append_right (by omega), Nat.add_sub_cancel_left, List.getElem?_append_left h]
theorem put_M (w : World) (g : Nat) (T : Option (Nat × B)) (M : List E) (key : ByteArray) (hk : key.size ≤ 281474976710656) (x : Int) (old : Int) (is : Bool) (hG : GetL M key old is) (h : TreeS w g T M) (hn : M.length < 100000000) :
    Calls Try.prog 13 #[.pointer (some ⟨g, 0, none⟩), .string key, .int .i64 x] w fun e w' => e = .returned (.tuple #[.int .i64 old, .bool is]) ∧ Hid (∃ T', TreeS w' g T' (putL M key x is) ∧ (∀ y ∈ fpO T', y ∈ fpO T ∨ w.heap.size ≤ y) ∧ Upd (g :: fpO T) w w') := by
  obtain ⟨tm, rfl, hs⟩ := h
  have hs' := putL_srt hs hG x
  cases T with
  | none =>
    rcases hG with ⟨_, h⟩ | ⟨rfl, h, rfl⟩
    · simp [entO] at h
    refine (tput_noneX g 0 0 (by decide) key hk x w tm (by decide)).mono ?_
    rintro e w' ⟨rfl, H⟩
    obtain ⟨b, h1, h2, h3, h4, h5⟩ := H.out
    exact ⟨rfl, some (0, .lf b [(key, x)]), ⟨⟨h1, h2, trivial, by simp [B.cnt, B.ss], by simp [fps], by simpa [fps, B.bk] using h4⟩, by simp [entO, ents, putL], hs'⟩, by simpa [fpO, fps, B.bk] using h5, h3⟩
  | some lt =>
    obtain ⟨l, t⟩ := lt
    have ht : TreeM w g l t := tm
    have hn' : (ents l t).length < 100000000 := hn
    have hb := ht.bounds hn'
    obtain ⟨b, es, nx', rd', g1, g2, g3⟩ := lfn_mem key ht.mem ht.ok
    have hm := hit_mem ht.ok hs g1
    rcases hG with ⟨rfl, h⟩ | ⟨rfl, h, rfl⟩
    · have hh : hit (es.map sE) key = true := hm.2 (List.mem_map.2 ⟨_, List.mem_of_getElem? h, rfl⟩)
      have hlt : sk (es.map sE) key < es.length := by have := hit_lt hh; simpa using this
      refine (tPut_hitX g l t key x w ht b es g1 hh).mono ?_
      rintro e w' ⟨old', rfl, H⟩
      obtain ⟨q0, t', q1, q2, q3, q4⟩ := H.out
      have h1 := at_pos ht.ok g1 hlt
      rw [pos_lb ht.ok hs, q0] at h1
      have h2 : old' = (key, old) := by
        have h' : (ents l t)[lb (kys l t) key]? = some (key, old) := h
        rw [h'] at h1
        injection h1 with h1
        exact h1.symm
      subst h2
      refine ⟨rfl, some (l, t'), ⟨q1, ?_, hs'⟩, fun y hy => .inl (by show y ∈ fps l t; rw [← q3]; exact hy), q4⟩
      show ents l t' = _
      rw [q2, pos_lb ht.ok hs]
      rfl
    · have hh : hit (es.map sE) key = false := by
        cases hq : hit (es.map sE) key with
        | false => rfl
        | true => exact absurd (hm.1 hq) h
      refine (tPut_miss g l t key hk x w ht hn' hb.1 b es g1 hh).mono ?_
      rintro e w' ⟨rfl, H⟩
      obtain ⟨l', t', R⟩ := H.out
      refine ⟨rfl, some (l', t'), ⟨R.tm, ?_, hs'⟩, R.fp, R.upd⟩
      show ents l' t' = _
      rw [R.ent, pos_lb ht.ok hs]
      rfl
theorem get_M (w : World) (g : Nat) (T : Option (Nat × B)) (M : List E) (key : ByteArray) (old : Int) (is : Bool) (hG : GetL M key old is) (h : TreeS w g T M) :
    Calls Try.prog 21 #[.pointer (some ⟨g, 0, none⟩), .string key] w fun e w' => e = .returned (.tuple #[.int .i64 old, .bool is]) ∧ Hid (Below w.heap.size w w') := by
  obtain ⟨tm, rfl, hs⟩ := h
  cases T with
  | none =>
    rcases hG with ⟨_, h⟩ | ⟨rfl, h, rfl⟩
    · simp [entO] at h
    refine (get_none g 0 0 key w tm).mono ?_
    rintro e w' ⟨rfl, rfl⟩
    exact ⟨rfl, Below.refl _ _⟩
  | some lt =>
    obtain ⟨l, t⟩ := lt
    have ht : TreeM w g l t := tm
    obtain ⟨b, es, nx', rd', g1, g2, g3⟩ := lfn_mem key ht.mem ht.ok
    have hm := hit_mem ht.ok hs g1
    rcases hG with ⟨rfl, h⟩ | ⟨rfl, h, rfl⟩
    · have hh : hit (es.map sE) key = true := hm.2 (List.mem_map.2 ⟨_, List.mem_of_getElem? h, rfl⟩)
      have hlt : sk (es.map sE) key < es.length := by have := hit_lt hh; simpa using this
      refine (get_hit g l t _ _ none 0 key w ht.tree ht.mem ht.ok b es g1 hh).mono ?_
      rintro e w' ⟨old', rfl, H⟩
      have h1 := at_pos ht.ok g1 hlt
      rw [pos_lb ht.ok hs, H.out.1] at h1
      have h2 : old' = (key, old) := by
        have h' : (ents l t)[lb (kys l t) key]? = some (key, old) := h
        rw [h'] at h1
        injection h1 with h1
        exact h1.symm
      subst h2
      exact ⟨rfl, H.out.2⟩
    · have hh : hit (es.map sE) key = false := by
        cases hq : hit (es.map sE) key with
        | false => rfl
        | true => exact absurd (hm.1 hq) h
      exact get_miss g l t _ _ none 0 key w ht.tree ht.mem ht.ok b es g1 hh
theorem del_M (w : World) (g : Nat) (T : Option (Nat × B)) (M : List E) (key : ByteArray) (old : Int) (is : Bool) (hG : GetL M key old is) (h : TreeS w g T M) (hn : M.length < 100000000) :
    Calls Try.prog 14 #[.pointer (some ⟨g, 0, none⟩), .string key] w fun e w' => e = .returned (.tuple #[.int .i64 old, .bool is]) ∧ Hid (∃ T', TreeS w' g T' (delL M key is) ∧ (∀ y ∈ fpO T', y ∈ fpO T ∨ w.heap.size ≤ y) ∧ Upd (g :: fpO T) w w') := by
  have hS := h
  obtain ⟨tm, rfl, hs⟩ := h
  have hs' := delL_srt (k := key) is hs
  cases T with
  | none =>
    rcases hG with ⟨_, h⟩ | ⟨rfl, h, rfl⟩
    · simp [entO] at h
    refine (delete_miss g key w ((get_none g 0 0 key w tm).mono (by rintro e w' ⟨rfl, rfl⟩; exact ⟨rfl, Below.refl _ _⟩))).mono ?_
    rintro e w' ⟨rfl, H⟩
    have u : Upd [] w w' := Upd.of_below [] H.out
    exact ⟨rfl, none, hS.upd u (by simp) (by simp), fun y hy => .inl hy, u.mono (by simp)⟩
  | some lt =>
    obtain ⟨l, t⟩ := lt
    have ht : TreeM w g l t := tm
    have hn' : (ents l t).length < 100000000 := hn
    obtain ⟨b, es, nx', rd', g1, g2, g3⟩ := lfn_mem key ht.mem ht.ok
    have hm := hit_mem ht.ok hs g1
    rcases hG with ⟨rfl, h⟩ | ⟨rfl, h, rfl⟩
    · have hh : hit (es.map sE) key = true := hm.2 (List.mem_map.2 ⟨_, List.mem_of_getElem? h, rfl⟩)
      have hlt : sk (es.map sE) key < es.length := by have := hit_lt hh; simpa using this
      refine (delete_hit g l t key w ht hn' b es g1 hh).mono ?_
      rintro e w' ⟨old', rfl, H⟩
      obtain ⟨q0, T', R⟩ := H.out
      have h1 := at_pos ht.ok g1 hlt
      rw [pos_lb ht.ok hs, q0] at h1
      have h2 : old' = (key, old) := by
        have h' : (ents l t)[lb (kys l t) key]? = some (key, old) := h
        rw [h'] at h1
        injection h1 with h1
        exact h1.symm
      subst h2
      refine ⟨rfl, T', ⟨R.tm, ?_, hs'⟩, fun y hy => .inl (R.fp y hy), R.upd⟩
      rw [R.ent, pos_lb ht.ok hs]
      rfl
    · have hh : hit (es.map sE) key = false := by
        cases hq : hit (es.map sE) key with
        | false => rfl
        | true => exact absurd (hm.1 hq) h
      refine (delete_miss g key w (get_miss g l t _ _ none 0 key w ht.tree ht.mem ht.ok b es g1 hh)).mono ?_
      rintro e w' ⟨rfl, H⟩
      have u : Upd [] w w' := Upd.of_below [] H.out
      exact ⟨rfl, some (l, t), hS.upd u (by simp) (by simp), fun y hy => .inl hy, u.mono (by simp)⟩
#print axioms put_M
#print axioms del_M
end Go.Proofs.Yteokjfpppmnebaa
