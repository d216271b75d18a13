/-
  A tree's leaves in their order, as data and in memory.
-/
import Derived.Test.YteokjfpppmnebaaPf
namespace Go.Proofs.Yteokjfpppmnebaa
open Go.RowKit
set_option linter.unusedVariables false
set_option linter.unusedSimpArgs false
abbrev LB := Nat × List E
def leaves : Nat → B → List LB
  | 0, .lf b es => [(b, es)]
  | 0, .nd _ _ => []
  | _ + 1, .lf _ _ => []
  | l + 1, .nd _ ks => ks.flatMap fun p => leaves l p.2
def lfes (ls : List LB) : List E := ls.flatMap (·.2)
theorem lfes_app (a b : List LB) : lfes (a ++ b) = lfes a ++ lfes b := by simp [lfes]
theorem lfes_cons (x : LB) (r : List LB) : lfes (x :: r) = x.2 ++ lfes r := rfl
theorem ents_leaves : ∀ (l : Nat) (t : B), ents l t = lfes (leaves l t)
  | 0, .lf b es => by simp [ents, leaves, lfes]
  | 0, .nd _ _ => rfl
  | _ + 1, .lf _ _ => rfl
  | l + 1, .nd _ ks => by
    simp only [ents, leaves]
    induction ks with
    | nil => rfl
    | cons p r ih => rw [List.flatMap_cons, List.flatMap_cons, lfes_app, ih, ents_leaves l p.2]
def nxl (ls : List LB) (nx : Option Nat) : Option Nat := match ls with
  | [] => nx
  | x :: _ => some x.1
theorem nxl_app (a c : List LB) (nx : Option Nat) : nxl (a ++ c) nx = nxl a (nxl c nx) := by cases a <;> rfl
/-- Leaves in memory, each with the one behind it. -/
def LC (W : World) : List LB → Option Nat → Prop
  | [], _ => True
  | x :: r, nx => (∃ rd, Nd W x.1 0 (x.2.map sE) (nxl r nx) rd) ∧ LC W r nx
theorem lc_app {W : World} : ∀ {a c : List LB} {nx : Option Nat}, LC W (a ++ c) nx ↔ LC W a (nxl c nx) ∧ LC W c nx
  | [], c, nx => by simp [LC]
  | x :: a, c, nx => by
    show (∃ rd, Nd W x.1 0 (x.2.map sE) (nxl (a ++ c) nx) rd) ∧ LC W (a ++ c) nx ↔ ((∃ rd, Nd W x.1 0 (x.2.map sE) (nxl a (nxl c nx)) rd) ∧ LC W a (nxl c nx)) ∧ LC W c nx
    rw [nxl_app, lc_app]
    constructor
    · rintro ⟨h1, h2, h3⟩; exact ⟨⟨h1, h2⟩, h3⟩
    · rintro ⟨⟨h1, h2⟩, h3⟩; exact ⟨h1, h2, h3⟩
theorem Ok.kid {l b : Nat} {ks : List KB} (h : Ok (l + 1) (.nd b ks)) {p : KB} (hp : p ∈ ks) : Ok l p.2 := ⟨(h.fit p hp).1, fun _ => by have := (h.fit p hp).2.1; omega⟩
theorem leaves_head : ∀ {l : Nat} {t : B}, Ok l t → ∃ es r, leaves l t = (fsl l t, es) :: r
  | 0, .lf b es, _ => ⟨es, [], rfl⟩
  | 0, .nd _ _, h => h.fit.elim
  | _ + 1, .lf _ _, h => h.fit.elim
  | l + 1, .nd b ks, h => by
    cases ks with
    | nil => have := h.ne (by omega); simp [B.cnt, B.ss] at this
    | cons p r =>
      obtain ⟨es, q, e⟩ := leaves_head (h.kid (p := p) (by simp))
      exact ⟨es, q ++ r.flatMap fun p => leaves l p.2, by simp only [leaves, List.flatMap_cons]; rw [e]; rfl⟩
theorem nxl_leaves {l : Nat} {t : B} (h : Ok l t) (nx : Option Nat) : nxl (leaves l t) nx = some (fsl l t) := by
  obtain ⟨es, r, e⟩ := leaves_head h
  rw [e]; rfl
theorem nxt_leaves {l : Nat} : ∀ {ks : List KB} {nx : Option Nat}, (∀ p ∈ ks, Ok l p.2) → nxl (ks.flatMap fun p => leaves l p.2) nx = nxt (fsl l) ks nx
  | [], _, _ => rfl
  | p :: r, nx, h => by rw [List.flatMap_cons, nxl_app, nxl_leaves (h p (by simp))]; rfl
theorem lc_of {W : World} : ∀ {l : Nat} {t : B} {nx : Option Nat} {rd : Int}, Mem W l t nx rd → Ok l t → LC W (leaves l t) nx
  | 0, .lf b es, nx, rd, h, _ => ⟨⟨rd, h⟩, trivial⟩
  | 0, .nd _ _, _, _, h, _ => h.elim
  | _ + 1, .lf _ _, _, _, h, _ => h.elim
  | l + 1, .nd b ks, nx, rd, h, ho => by
    have hk : ∀ p ∈ ks, Ok l p.2 := fun p hp => ho.kid hp
    have hc := h.2
    simp only [leaves]
    clear h ho
    induction ks generalizing nx with
    | nil => trivial
    | cons p r ih =>
      rw [List.flatMap_cons]
      refine lc_app.2 ⟨?_, ih _ (fun q hq => hk q (by simp [hq])) hc.2⟩
      rw [nxt_leaves (fun q hq => hk q (by simp [hq]))]
      exact lc_of hc.1 (hk p (by simp))
theorem way : ∀ {l : Nat} {t : B} (k : ByteArray), Ok l t → ∃ X b es Y, leaves l t = X ++ (b, es) :: Y ∧ lfn l t k = .lf b es ∧ pos l t k = (lfes X).length + sk (es.map sE) k
  | 0, .lf b es, k, _ => ⟨[], b, es, [], rfl, rfl, by simp [pos, lfes]⟩
  | 0, .nd _ _, _, h => h.fit.elim
  | _ + 1, .lf _ _, _, h => h.fit.elim
  | l + 1, .nd b ks, k, h => by
    obtain ⟨A, p, D, rfl, hA, hp, _⟩ := h.cut k
    obtain ⟨X, c, es, Y, e1, e2, e3⟩ := way k hp
    refine ⟨(A.flatMap fun p => leaves l p.2) ++ X, c, es, Y ++ D.flatMap fun p => leaves l p.2, ?_, ?_, ?_⟩
    · simp only [leaves]
      rw [List.flatMap_append, List.flatMap_cons, e1]
      simp
    · rw [lfn_at hA, e2]
    · rw [pos_at hA, e3, lfes_app, List.length_append]
      have : (A.flatMap fun p => ents l p.2) = lfes (A.flatMap fun p => leaves l p.2) := by
        clear hA e1 e2 e3 h
        induction A with
        | nil => rfl
        | cons q r ih => rw [List.flatMap_cons, List.flatMap_cons, lfes_app, ih, ents_leaves]
      rw [this]
      omega
theorem leaf_fps : ∀ {l : Nat} {t : B} {x : LB}, x ∈ leaves l t → x.1 ∈ fps l t
  | 0, .lf b es, x, h => by simp only [leaves, List.mem_singleton] at h; subst h; simp [fps, B.bk]
  | 0, .nd _ _, _, h => by simp [leaves] at h
  | _ + 1, .lf _ _, _, h => by simp [leaves] at h
  | l + 1, .nd b ks, x, h => by
    simp only [leaves, List.mem_flatMap] at h
    obtain ⟨p, hp, hx⟩ := h
    simp only [fps, List.mem_cons, List.mem_flatMap]
    exact .inr ⟨p, hp, leaf_fps hx⟩
#print axioms way
end Go.Proofs.Yteokjfpppmnebaa
