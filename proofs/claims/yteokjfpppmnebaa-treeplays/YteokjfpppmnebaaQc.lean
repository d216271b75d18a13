/-
  Sorted trees stay sorted behind Put and Delete.
-/
import Derived.Test.YteokjfpppmnebaaQb
import Derived.Test.YteokjfpppmnebaaPn
namespace Go.Proofs.Yteokjfpppmnebaa
open Go.RowKit
set_option linter.unusedVariables false
set_option linter.unusedSimpArgs false
theorem srt_ins {es : List E} (k : ByteArray) (x : Int) (hs : Srt (es.map (·.1))) (hn : k ∉ es.map (·.1)) : Srt ((es.take (lb (es.map (·.1)) k) ++ (k, x) :: es.drop (lb (es.map (·.1)) k)).map (·.1)) := by
  have := srt_put hs hn
  rw [List.map_append, List.map_cons, List.map_take, List.map_drop]
  exact this
theorem srt_del {es : List E} (i : Nat) (hs : Srt (es.map (·.1))) : Srt ((es.eraseIdx i).map (·.1)) :=
  List.Pairwise.sublist ((List.eraseIdx_sublist es i).map _) hs
theorem kys_set {es : List E} {i : Nat} {e e' : E} (h : es[i]? = some e) (he : e'.1 = e.1) : (es.set i e').map (·.1) = es.map (·.1) := by
  obtain ⟨hi, rfl⟩ := List.getElem?_eq_some_iff.1 h
  apply List.ext_getElem
  · simp
  · intro j h1 h2
    simp only [List.getElem_map, List.getElem_set]
    split
    · rename_i q; subst q; exact he
    · rfl
/-- The search hits where the text is there, and only there. -/
theorem hit_mem {l : Nat} {t : B} {k : ByteArray} {b : Nat} {es : List E} (ho : Ok l t) (hs : Srt (kys l t)) (hl : lfn l t k = .lf b es) : hit (es.map sE) k = true ↔ k ∈ kys l t := by
  obtain ⟨b', es', e1, e2⟩ := hit_kys ho hs k
  rw [hl] at e1
  injection e1 with e3 e4
  subst e4
  exact e2
theorem hitT_mem {l : Nat} {t : B} {k : ByteArray} (ho : Ok l t) (hs : Srt (kys l t)) : hitT l t k ↔ k ∈ kys l t := by
  obtain ⟨b, es, e1, e2⟩ := hit_kys ho hs k
  constructor
  · rintro ⟨b', es', h1, h2⟩
    exact (hit_mem ho hs h1).1 h2
  · exact fun h => ⟨b, es, e1, e2.2 h⟩
/-- A text that is there is found at its place. -/
theorem mem_lb {ks : List ByteArray} {k : ByteArray} (hs : Srt ks) (h : k ∈ ks) : ks[lb ks k]? = some k := by
  obtain ⟨i, hi⟩ := List.getElem?_of_mem h
  have h1 : ¬ i < lb ks k := fun q => by
    have := (srt_lb hs k i k hi).2 q
    rw [blt_irr] at this; cases this
  obtain ⟨hil, hie⟩ := List.getElem?_eq_some_iff.1 hi
  rcases Nat.lt_or_ge (lb ks k) i with q | q
  · have hj : lb ks k < ks.length := by omega
    have h2 := List.pairwise_iff_getElem.1 hs (lb ks k) i hj hil q
    rw [hie] at h2
    have := (srt_lb hs k (lb ks k) ks[lb ks k] (List.getElem?_eq_getElem hj)).1 h2
    omega
  · have e : lb ks k = i := by omega
    rw [e]; exact hi
theorem AddR.srt {w w' : World} {g l : Nat} {t : B} {key : ByteArray} {x : Int} {l' : Nat} {t' : B} (h : AddR w w' g l t key x l' t') (ho : Ok l t) (hs : Srt (kys l t)) (hn : key ∉ kys l t) : Srt (kys l' t') := by
  unfold kys at hn hs ⊢
  rw [h.ent, pos_lb ho hs key]
  exact srt_ins key x hs hn
theorem DelR.srt {w w' : World} {g l : Nat} {t : B} {key : ByteArray} {T : Option (Nat × B)} (h : DelR w w' g l t key T) (hs : Srt (kys l t)) : Srt ((entO T).map (·.1)) := by
  rw [h.ent]
  exact srt_del _ hs
#print axioms AddR.srt
#print axioms DelR.srt
#print axioms mem_lb
#print axioms hitT_mem
end Go.Proofs.Yteokjfpppmnebaa
