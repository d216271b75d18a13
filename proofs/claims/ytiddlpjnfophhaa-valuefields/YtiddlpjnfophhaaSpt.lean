/-
  The law package's spoilt.
-/
import Derived.Test.YtiddlpjnfophhaaSpo
namespace Go.Proofs.Ytiddlpjnfophhaa
open Go.RowKit
set_option linter.unusedVariables false
theorem s9 : (Try.prog.info? 9).map (·.size) = some 1 := by kernel_rfl
theorem st_mid {P : Program} {ops : Array Oper} {rest : List Oper} {o : Oper} {a : Act} {w : World} {Q : Exit → Act → World → Prop} (hg : o.guard = none) (ty : TypeId) (x y : Operand) (ho : o.op = .store ty x y) (b off : Nat) (m : List Value)
    (hx : a.eval x = .pointer (some ⟨b, off, none⟩)) (hy : a.eval y = .agg m.toArray) (ht : w.there b off m.length) (hi : (P.info? ty).map (·.size) = some m.length) (h1 : ∀ v ∈ m, v.oneCell' = true)
    (R : World → Prop) (hR : R (w.setCells b off m)) (h : ∀ w', R w' → wpList P ops Q rest (a.put o.dst undef) w') : wpList P ops Q (o :: rest) a w :=
  wpList_store_mid hg ty x y ho b off m.toArray hx hy (by simpa using ht) (by simpa using hi) (all_oneCell_toArray h1) (by simpa using h _ hR)
def bad : List Value := [.int .i64 (-1), .int .i64 0, .int .i64 0, .string ⟨#[]⟩, .slice none 0 0, .slice none 0 0]
theorem bad_one : ∀ u ∈ bad, u.oneCell' = true := by
  intro u hu
  simp only [bad, List.mem_cons, List.not_mem_nil, or_false] at hu
  rcases hu with rfl | rfl | rfl | rfl | rfl | rfl <;> rfl
def SpIh (p0 : Vt) : Prop := ∀ p : Vt, wt p < wt p0 → WfV p → ∀ (na : Option Addr) (nc : Nat) (ka : Option Addr) (kc : Nat) (L : List Nat) (W : World), VlL W p na nc ka kc L → L.Nodup → (∀ x ∈ L, x < W.heap.size) →
  Calls Try.prog 23 #[.agg #[.int .i64 p.1.k, .int .i64 p.1.n, .int .i64 p.1.s, .string p.1.t, .slice na p.1.ns.length nc, .slice ka p.2.list.length kc]] W fun e w' => e = .returned (.tuple #[]) ∧ Hid (Only W w' L)
set_option maxRecDepth 8000 in
set_option maxHeartbeats 1000000 in
theorem spoil_step (p : Vt) (ih : SpIh p) (hwf : WfV p) (na : Option Addr) (nc : Nat) (ka : Option Addr) (kc : Nat) (L : List Nat) (W : World) (hv : VlL W p na nc ka kc L) (hn : L.Nodup) (hl : ∀ x ∈ L, x < W.heap.size) :
    Calls Try.prog 23 #[.agg #[.int .i64 p.1.k, .int .i64 p.1.n, .int .i64 p.1.s, .string p.1.t, .slice na p.1.ns.length nc, .slice ka p.2.list.length kc]] W fun e w' => e = .returned (.tuple #[]) ∧ Hid (Only W w' L) := by
  obtain ⟨W1, HW1⟩ : ∃ W1, Hid (W.alloc (.cells #[.int .i64 p.1.k, .int .i64 p.1.n, .int .i64 p.1.s, .string p.1.t, .slice na p.1.ns.length nc, .slice ka p.2.list.length kc] 25) = W1) := ⟨_, rfl⟩
  have HS0 : Hid (SInv W p na nc ka kc L 0 W1) := SInv.start hv hn hl HW1.out.symm
  have hkl := hwf.2.1
  have hnl := hwf.1.c1
  have HI : Hid (SpIh p) := ih
  have HW : Hid (WfV p) := hwf
  clear hv hn hl ih hwf
  go_enter Try.func23, Try.ntmps23
  go_wp2
  generalize hWW : World.alloc W _ = W9
  obtain rfl : W1 = W9 := by rw [← hWW, ← HW1.out]
  clear hWW HW1
  go_loopw [2] (fun i wr => ∃ k : Nat, k ≤ p.1.ns.length ∧ i = .int .i64 (k : Int) ∧ Hid (SInv W p na nc ka kc L 0 wr)) (fun i _ => p.1.ns.length - (intOf i).toNat)
  case atStart => exact ⟨0, by omega, rfl, HS0.out⟩
  case round =>
    clear HS0
    obtain ⟨k, hk, rfl, HS⟩ := hrel
    have d4 : wr.cell? ⟨W.heap.size, 4, none⟩ = some (.slice na p.1.ns.length nc) := HS.out.b1.cell 4
    by_cases hlt : k < p.1.ns.length
    case pos =>
      obtain ⟨bn, on, hna, hth, _, _⟩ := HS.out.nms.resolve_left (by omega)
      have HT : Hid (wr.there bn (on + k) 1) := fun j hj => by
        have := hth (k + j) (by omega)
        rw [← Nat.add_assoc] at this
        exact this
      subst hna
      clear hth
      go_wp2_with (refine st_at rfl 9 (.tmp 14) _ rfl bn (on + k) _ rfl rfl rfl rfl HT.out s9 ?_)
      go_roundw
      case rel => exact ⟨k + 1, by omega, by go_num, HS.out.name rfl (by omega) _ _⟩
      case measure => simp [intOf]; omega
    go_wp2
    clear d4
    go_loopw [3] (fun i wr => ∃ k : Nat, k ≤ p.2.list.length ∧ i = .int .i64 (k : Int) ∧ Hid (SInv W p na nc ka kc L k wr)) (fun i _ => p.2.list.length - (intOf i).toNat)
    case atStart => exact ⟨0, by omega, rfl, HS.out⟩
    case round =>
      clear HS hlt hk
      obtain ⟨k, hk, rfl, HS⟩ := hrel
      have d5 : wr.cell? ⟨W.heap.size, 5, none⟩ = some (.slice ka p.2.list.length kc) := HS.out.b1.cell 5
      by_cases hlt : k < p.2.list.length
      case neg =>
        have HO : Hid (Only W wr L) := HS.out.only
        go_wp2
        exact ⟨rfl, _, results_none rfl _ _ _, rfl, HO.out⟩
      obtain ⟨q, hq⟩ : ∃ q, p.2.list[k]? = some q := ⟨_, List.getElem?_eq_getElem hlt⟩
      obtain ⟨b, o, na', nc', ka', kc', Lq, hka, hnd, hvq, hnq, hlq, hnext⟩ := HS.out.get hq
      have HK := HI.out q (wt_kid (List.mem_of_getElem? hq)) (HW.out.kid (List.mem_of_getElem? hq)) na' nc' ka' kc' Lq wr hvq hnq hlq
      have HN : Hid _ := hnext
      subst hka
      obtain ⟨c0, c1, c2, c3, c4, c5⟩ := hnd
      clear hvq hnq hlq hnext hq
      go_wp2_with fail
      refine HK.mono ?_
      clear HK c0 c1 c2 c3 c4 c5 d5
      rintro e w1 ⟨rfl, H1⟩
      obtain ⟨d5, hth, hst⟩ := HN.out w1 H1.out
      have HT : Hid (w1.there b (o + k * 6) 6) := hth
      have HX : Hid (∀ vs : List Value, vs.length = 6 → SInv W p na nc (some ⟨b, o, none⟩) kc L (k + 1) (w1.setCells b (o + k * 6) vs)) := hst
      clear hth hst H1 HN HS
      go_wp2_with (refine st_mid rfl 25 (.tmp 32) (.tmp 31) rfl b (o + k * 6) bad rfl rfl HT.out s25 bad_one (fun w' => SInv W p na nc (some ⟨b, o, none⟩) kc L (k + 1) w') (HX.out bad rfl) ?_)
      intro w2 h2
      have HS2 : Hid (SInv W p na nc (some ⟨b, o, none⟩) kc L (k + 1) w2) := h2
      clear HX HT d5 h2
      go_wp2
      go_roundw
      case rel => exact ⟨k + 1, by omega, by go_num, HS2.out⟩
      case measure => simp [intOf]; omega
theorem spoil_any : ∀ (N : Nat) (p : Vt), wt p ≤ N → WfV p → ∀ (na : Option Addr) (nc : Nat) (ka : Option Addr) (kc : Nat) (L : List Nat) (W : World), VlL W p na nc ka kc L → L.Nodup → (∀ x ∈ L, x < W.heap.size) →
    Calls Try.prog 23 #[.agg #[.int .i64 p.1.k, .int .i64 p.1.n, .int .i64 p.1.s, .string p.1.t, .slice na p.1.ns.length nc, .slice ka p.2.list.length kc]] W fun e w' => e = .returned (.tuple #[]) ∧ Hid (Only W w' L) := by
  intro N
  induction N with
  | zero => intro p hp; exfalso; unfold wt at hp; omega
  | succ N ih =>
    intro p hp hwf na nc ka kc L W hv hn hl
    exact spoil_step p (fun q hq hwq na nc ka kc L W h1 h2 h3 => ih q (by omega) hwq na nc ka kc L W h1 h2 h3) hwf na nc ka kc L W hv hn hl
#print axioms spoil_any
end Go.Proofs.Ytiddlpjnfophhaa
