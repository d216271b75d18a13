/-
  How many parts a value has, and how deep it is: value.sizeOf, value.Size; the document's own size and Size.
-/
import Derived.Test.YtiddlpjnfophhaaRck
namespace Go.Proofs.Ytiddlpjnfophhaa
open Go.RowKit
set_option linter.unusedVariables false
/-- The depth of values one behind the other. -/
def Fo.dep : Fo → Nat
  | .nil => 0
  | .cons _ k r => max (1 + k.dep) r.dep
def dep (p : Vt) : Nat := 1 + p.2.dep
theorem dep_step {f : Fo} {k : Nat} {q : Vt} (h : f.list[k]? = some q) : (f.drop k).dep = max (dep q) (f.drop (k + 1)).dep := by
  rw [Fo.drop_at f k q h]; rfl
theorem wt_step {f : Fo} {k : Nat} {q : Vt} (h : f.list[k]? = some q) : (f.drop k).wt = wt q + (f.drop (k + 1)).wt := by
  rw [Fo.drop_at f k q h]; rfl
theorem dep_le : ∀ f : Fo, f.dep ≤ f.wt
  | .nil => Nat.le_refl _
  | .cons _ k r => by
    have h1 := dep_le k
    have h2 := dep_le r
    simp only [Fo.dep, Fo.wt]
    omega
/-- What size answers, of each value that is smaller. -/
def SIh (F : Nat) (p : Vt) : Prop := ∀ q : Vt, wt q < wt p → WfV q → ∀ (na : Option Addr) (nc : Nat) (ka : Option Addr) (kc : Nat) (W : World), Vl W q na nc ka kc →
  Calls Try.prog F #[.agg #[.int .i64 q.1.k, .int .i64 q.1.n, .int .i64 q.1.s, .string q.1.t, .slice na q.1.ns.length nc, .slice ka q.2.list.length kc]] W fun e w' => e = .returned (.tuple #[.int .i64 (wt q : Int), .int .i64 (dep q : Int)]) ∧ Below W.heap.size W w'
theorem ret_two {a b c d : Int} (h : a = b) (h2 : c = d) : Ending.returned (.tuple #[.int .i64 a, .int .i64 c]) = .returned (.tuple #[.int .i64 b, .int .i64 d]) := by rw [h, h2]
set_option maxRecDepth 8000 in
set_option maxHeartbeats 4000000 in
theorem vsize_step (p : Vt) (ih : SIh 26 p) (hwf : WfV p) (hwt : wt p ≤ 1000000) (na : Option Addr) (nc : Nat) (ka : Option Addr) (kc : Nat) (w : World) (hv : Vl w p na nc ka kc) :
    Calls Try.prog 26 #[.agg #[.int .i64 p.1.k, .int .i64 p.1.n, .int .i64 p.1.s, .string p.1.t, .slice na p.1.ns.length nc, .slice ka p.2.list.length kc]] w fun e w' => e = .returned (.tuple #[.int .i64 (wt p : Int), .int .i64 (dep p : Int)]) ∧ Below w.heap.size w w' := by
  have HI : Hid (SIh 26 p) := ih
  have HW : Hid (WfV p) := hwf
  have hkl := hwf.2.1
  have b0 : Below w.heap.size w (w.alloc (.cells #[.int .i64 p.1.k, .int .i64 p.1.n, .int .i64 p.1.s, .string p.1.t, .slice na p.1.ns.length nc, .slice ka p.2.list.length kc] 25)) := (Below.refl _ _).alloc (Nat.le_refl _) _
  have HV : Hid (Vl (w.alloc (.cells #[.int .i64 p.1.k, .int .i64 p.1.n, .int .i64 p.1.s, .string p.1.t, .slice na p.1.ns.length nc, .slice ka p.2.list.length kc] 25)) p na nc ka kc) := hv.below b0
  have HB0 : Hid _ := b0
  have HWp : Hid (wt p = 1 + p.2.wt) := rfl
  have HDp : Hid (dep p = 1 + p.2.dep) := rfl
  have HDl : Hid (∀ f : Fo, f.dep ≤ f.wt) := dep_le
  generalize wt p = WP at *
  generalize dep p = DP at *
  clear hv ih hwf b0
  go_enter Try.func26, Try.ntmps26
  go_wp2
  generalize (w.alloc (.cells #[.int .i64 p.1.k, .int .i64 p.1.n, .int .i64 p.1.s, .string p.1.t, .slice na p.1.ns.length nc, .slice ka p.2.list.length kc] 25)) = w1 at *
  go_loopw [2, 3, 11] (fun a b i wr => ∃ k m e : Nat, k ≤ p.2.list.length ∧ i = .int .i64 (k : Int) ∧ a = .int .i64 (m : Int) ∧ b = .int .i64 (e : Int) ∧ m ≤ 1000000 ∧ e ≤ 1000000 ∧ Hid (Below w1.heap.size w1 wr) ∧ Hid (p.2.wt = m + (p.2.drop k).wt ∧ p.2.dep = max e (p.2.drop k).dep)) (fun _ _ i _ => p.2.list.length - (intOf i).toNat)
  case atStart => exact ⟨0, 0, 0, by omega, rfl, rfl, rfl, by omega, by omega, Below.refl _ _, ⟨by simp [Fo.drop], by simp [Fo.drop]⟩⟩
  case round =>
    obtain ⟨k, m, e, hk0, rfl, rfl, rfl, hm, he, HB, HRk⟩ := hrel
    by_cases hlt : k < p.2.list.length
    case neg =>
      have hE := HRk.out
      rw [Fo.drop_end _ _ (by omega)] at hE
      obtain ⟨hE1, hE2⟩ := hE
      simp only [Fo.wt, Fo.dep, Nat.add_zero, Nat.max_zero] at hE1 hE2
      have HE : Hid (p.2.wt = m ∧ p.2.dep = e) := ⟨hE1, hE2⟩
      clear hE1 hE2
      go_wp2
      go_ret2
      exact ⟨ret_two (by have h1 := HWp.out; have h2 := HE.out.1; omega) (by have h1 := HDp.out; have h2 := HE.out.2; omega), HB0.out.trans (HB.out.mono HB0.out.size)⟩
    obtain ⟨q, b, o, na', nc', ka', kc', hq, rfl, hnd, hvl⟩ := HV.out.kid HB.out (k := k) hlt
    have HQ := HI.out q (wt_kid (List.mem_of_getElem? hq)) (HW.out.kid (List.mem_of_getElem? hq)) na' nc' ka' kc' (wr.alloc (.cells #[.int .i64 q.1.k, .int .i64 q.1.n, .int .i64 q.1.s, .string q.1.t, .slice na' q.1.ns.length nc', .slice ka' q.2.list.length kc'] 25)) (hvl.below ((Below.refl _ _).alloc (Nat.le_refl _) _))
    have h1 := wt_step hq
    have h2 := dep_step hq
    have h3 := HRk.out
    rw [h1, h2] at h3
    have h4 : dep q ≤ wt q := by have := dep_le q.2; simp only [dep, wt]; omega
    have h5 := HWp.out
    generalize wt q = WQ at *
    generalize dep q = DQ at *
    have hm2 : m + WQ ≤ 1000000 := by omega
    have hw2 : DQ ≤ 1000000 := by omega
    obtain ⟨e2, he2, hme, hme2⟩ : ∃ e2 : Nat, e2 = max e DQ ∧ (if (e : Int) < (DQ : Int) then (DQ : Int) else (e : Int)) = (e2 : Int) ∧ e2 ≤ 1000000 := by
      refine ⟨max e DQ, rfl, ?_, by omega⟩
      split <;> omega
    have HS : Hid (p.2.wt = (m + WQ) + (p.2.drop (k + 1)).wt ∧ p.2.dep = max e2 (p.2.drop (k + 1)).dep) := ⟨by omega, by rw [h3.2, he2]; omega⟩
    obtain ⟨d0, d1, d2, d3, d4, d5⟩ := hnd
    clear hvl hq HRk h1 h2 h3 h4 h5 he2
    go_wp2_with fail
    refine HQ.mono ?_
    rintro e w3 ⟨rfl, hb3⟩
    have HB3 : Hid (Below w1.heap.size w1 w3) := HB.out.trans ((box_below _ hb3).mono HB.out.size)
    clear HQ hb3
    go_wp2
    go_roundw
    case rel => exact ⟨k + 1, m + WQ, e2, by omega, by go_num, by go_num, by go_num, hm2, hme2, HB3.out, HS.out⟩
    case measure => simp [intOf]; omega
set_option maxRecDepth 8000 in
set_option maxHeartbeats 4000000 in
theorem rsize_step (p : Vt) (ih : SIh 27 p) (hwf : WfV p) (hwt : wt p ≤ 1000000) (na : Option Addr) (nc : Nat) (ka : Option Addr) (kc : Nat) (w : World) (hv : Vl w p na nc ka kc) :
    Calls Try.prog 27 #[.agg #[.int .i64 p.1.k, .int .i64 p.1.n, .int .i64 p.1.s, .string p.1.t, .slice na p.1.ns.length nc, .slice ka p.2.list.length kc]] w fun e w' => e = .returned (.tuple #[.int .i64 (wt p : Int), .int .i64 (dep p : Int)]) ∧ Below w.heap.size w w' := by
  have HI : Hid (SIh 27 p) := ih
  have HW : Hid (WfV p) := hwf
  have hkl := hwf.2.1
  have b0 : Below w.heap.size w (w.alloc (.cells #[.int .i64 p.1.k, .int .i64 p.1.n, .int .i64 p.1.s, .string p.1.t, .slice na p.1.ns.length nc, .slice ka p.2.list.length kc] 25)) := (Below.refl _ _).alloc (Nat.le_refl _) _
  have HV : Hid (Vl (w.alloc (.cells #[.int .i64 p.1.k, .int .i64 p.1.n, .int .i64 p.1.s, .string p.1.t, .slice na p.1.ns.length nc, .slice ka p.2.list.length kc] 25)) p na nc ka kc) := hv.below b0
  have HB0 : Hid _ := b0
  have HC : Hid (∀ W, Below (w.alloc (.cells #[.int .i64 p.1.k, .int .i64 p.1.n, .int .i64 p.1.s, .string p.1.t, .slice na p.1.ns.length nc, .slice ka p.2.list.length kc] 25)).heap.size (w.alloc (.cells #[.int .i64 p.1.k, .int .i64 p.1.n, .int .i64 p.1.s, .string p.1.t, .slice na p.1.ns.length nc, .slice ka p.2.list.length kc] 25)) W → W.cell? ⟨w.heap.size, 5, none⟩ = some (.slice ka p.2.list.length kc)) := fun W hb => (box_nd hb).c5
  have HWp : Hid (wt p = 1 + p.2.wt) := rfl
  have HDp : Hid (dep p = 1 + p.2.dep) := rfl
  have HDl : Hid (∀ f : Fo, f.dep ≤ f.wt) := dep_le
  generalize wt p = WP at *
  generalize dep p = DP at *
  clear hv ih hwf b0
  go_enter Try.func27, Try.ntmps27
  go_wp2
  generalize (w.alloc (.cells #[.int .i64 p.1.k, .int .i64 p.1.n, .int .i64 p.1.s, .string p.1.t, .slice na p.1.ns.length nc, .slice ka p.2.list.length kc] 25)) = w1 at *
  go_loopw [4, 5, 6, 7, 8] (fun a b i _ _ wr => ∃ k m e : Nat, k ≤ p.2.list.length ∧ i = .int .i64 (k : Int) ∧ a = .int .i64 ((1 + m : Nat) : Int) ∧ b = .int .i64 (e : Int) ∧ m ≤ 1000000 ∧ e ≤ 1000000 ∧ Hid (Below w1.heap.size w1 wr) ∧ Hid (p.2.wt = m + (p.2.drop k).wt ∧ p.2.dep = max e (p.2.drop k).dep)) (fun _ _ i _ _ _ => p.2.list.length - (intOf i).toNat)
  case atStart => exact ⟨0, 0, 0, by omega, rfl, rfl, rfl, by omega, by omega, Below.refl _ _, ⟨by simp [Fo.drop], by simp [Fo.drop]⟩⟩
  case round =>
    obtain ⟨k, m, e, hk0, rfl, rfl, rfl, hm, he, HB, HRk⟩ := hrel
    have c5 := HC.out wr HB.out
    by_cases hlt : k < p.2.list.length
    case neg =>
      have hE := HRk.out
      rw [Fo.drop_end _ _ (by omega)] at hE
      obtain ⟨hE1, hE2⟩ := hE
      simp only [Fo.wt, Fo.dep, Nat.add_zero, Nat.max_zero] at hE1 hE2
      have HE : Hid (p.2.wt = m ∧ p.2.dep = e) := ⟨hE1, hE2⟩
      clear hE1 hE2
      go_wp2
      go_ret2
      exact ⟨ret_two (by have h1 := HWp.out; have h2 := HE.out.1; omega) (by have h1 := HDp.out; have h2 := HE.out.2; omega), HB0.out.trans (HB.out.mono HB0.out.size)⟩
    obtain ⟨q, b, o, na', nc', ka', kc', hq, rfl, hnd, hvl⟩ := HV.out.kid HB.out (k := k) hlt
    have HQ := HI.out q (wt_kid (List.mem_of_getElem? hq)) (HW.out.kid (List.mem_of_getElem? hq)) na' nc' ka' kc' wr hvl
    have h1 := wt_step hq
    have h2 := dep_step hq
    have h3 := HRk.out
    rw [h1, h2] at h3
    have h4 : dep q ≤ wt q := by have := dep_le q.2; simp only [dep, wt]; omega
    have h5 := HWp.out
    generalize wt q = WQ at *
    generalize dep q = DQ at *
    have hm2 : m + WQ ≤ 1000000 := by omega
    have hw2 : DQ ≤ 1000000 := by omega
    obtain ⟨e2, he2, hme, hme2⟩ : ∃ e2 : Nat, e2 = max e DQ ∧ (if (e : Int) < (DQ : Int) then (DQ : Int) else (e : Int)) = (e2 : Int) ∧ e2 ≤ 1000000 := by
      refine ⟨max e DQ, rfl, ?_, by omega⟩
      split <;> omega
    have HS : Hid (p.2.wt = (m + WQ) + (p.2.drop (k + 1)).wt ∧ p.2.dep = max e2 (p.2.drop (k + 1)).dep) := ⟨by omega, by rw [h3.2, he2]; omega⟩
    obtain ⟨d0, d1, d2, d3, d4, d5⟩ := hnd
    clear hvl hq HRk h1 h2 h3 h4 h5 he2
    go_wp2_with fail
    refine HQ.mono ?_
    rintro e w3 ⟨rfl, hb3⟩
    have HB3 : Hid (Below w1.heap.size w1 w3) := HB.out.trans (hb3.mono HB.out.size)
    clear HQ hb3
    go_wp2
    go_roundw
    case rel => exact ⟨k + 1, m + WQ, e2, by omega, by go_num, by go_num, by go_num, hm2, hme2, HB3.out, HS.out⟩
    case measure => simp [intOf]; omega
theorem vsize_any : ∀ (n : Nat) (p : Vt), wt p ≤ n → n ≤ 1000000 → WfV p → ∀ (na : Option Addr) (nc : Nat) (ka : Option Addr) (kc : Nat) (W : World), Vl W p na nc ka kc →
    Calls Try.prog 26 #[.agg #[.int .i64 p.1.k, .int .i64 p.1.n, .int .i64 p.1.s, .string p.1.t, .slice na p.1.ns.length nc, .slice ka p.2.list.length kc]] W fun e w' => e = .returned (.tuple #[.int .i64 (wt p : Int), .int .i64 (dep p : Int)]) ∧ Below W.heap.size W w' := by
  intro n
  induction n with
  | zero => intro p hp; exfalso; unfold wt at hp; omega
  | succ n ih =>
    intro p hp hn hwf na nc ka kc W hv
    exact vsize_step p (fun q hq hwq na nc ka kc W h => ih q (by omega) (by omega) hwq na nc ka kc W h) hwf (by omega) na nc ka kc W hv
theorem rsize_any : ∀ (n : Nat) (p : Vt), wt p ≤ n → n ≤ 1000000 → WfV p → ∀ (na : Option Addr) (nc : Nat) (ka : Option Addr) (kc : Nat) (W : World), Vl W p na nc ka kc →
    Calls Try.prog 27 #[.agg #[.int .i64 p.1.k, .int .i64 p.1.n, .int .i64 p.1.s, .string p.1.t, .slice na p.1.ns.length nc, .slice ka p.2.list.length kc]] W fun e w' => e = .returned (.tuple #[.int .i64 (wt p : Int), .int .i64 (dep p : Int)]) ∧ Below W.heap.size W w' := by
  intro n
  induction n with
  | zero => intro p hp; exfalso; unfold wt at hp; omega
  | succ n ih =>
    intro p hp hn hwf na nc ka kc W hv
    exact rsize_step p (fun q hq hwq na nc ka kc W h => ih q (by omega) (by omega) hwq na nc ka kc W h) hwf (by omega) na nc ka kc W hv
def sizN (p : Vt) : Int := if chkV p 1 = 0 then (wt p : Int) else 0
def sizD (p : Vt) : Int := if chkV p 1 = 0 then (dep p : Int) else 0
set_option maxRecDepth 8000 in
set_option maxHeartbeats 4000000 in
theorem vSize_any (p : Vt) (hwf : WfV p) (hwt : wt p ≤ 1000000) (na : Option Addr) (nc : Nat) (ka : Option Addr) (kc : Nat) (w : World) (hv : Vl w p na nc ka kc) :
    Calls Try.prog 9 #[.agg #[.int .i64 p.1.k, .int .i64 p.1.n, .int .i64 p.1.s, .string p.1.t, .slice na p.1.ns.length nc, .slice ka p.2.list.length kc]] w fun e w' => e = .returned (.tuple #[.int .i64 (sizN p), .int .i64 (sizD p)]) ∧ Below w.heap.size w w' := by
  have HQ : Hid (∀ W', Vl W' p na nc ka kc → Calls Try.prog 25 #[.agg #[.int .i64 p.1.k, .int .i64 p.1.n, .int .i64 p.1.s, .string p.1.t, .slice na p.1.ns.length nc, .slice ka p.2.list.length kc]] W' fun e w' => e = .returned (.bool (chkV p 1 == 0)) ∧ Below W'.heap.size W' w') := fun W' h => isValue_any p hwf na nc ka kc W' h
  have HS : Hid (∀ W', Vl W' p na nc ka kc → Calls Try.prog 26 #[.agg #[.int .i64 p.1.k, .int .i64 p.1.n, .int .i64 p.1.s, .string p.1.t, .slice na p.1.ns.length nc, .slice ka p.2.list.length kc]] W' fun e w' => e = .returned (.tuple #[.int .i64 (wt p : Int), .int .i64 (dep p : Int)]) ∧ Below W'.heap.size W' w') := fun W' h => vsize_any _ p hwt (Nat.le_refl _) hwf na nc ka kc W' h
  have b0 : Below w.heap.size w (w.alloc (.cells #[.int .i64 p.1.k, .int .i64 p.1.n, .int .i64 p.1.s, .string p.1.t, .slice na p.1.ns.length nc, .slice ka p.2.list.length kc] 25)) := (Below.refl _ _).alloc (Nat.le_refl _) _
  have HV : Hid (Vl (w.alloc (.cells #[.int .i64 p.1.k, .int .i64 p.1.n, .int .i64 p.1.s, .string p.1.t, .slice na p.1.ns.length nc, .slice ka p.2.list.length kc] 25)) p na nc ka kc) := hv.below b0
  have HB0 : Hid _ := b0
  have HC : Hid (∀ W, Below (w.alloc (.cells #[.int .i64 p.1.k, .int .i64 p.1.n, .int .i64 p.1.s, .string p.1.t, .slice na p.1.ns.length nc, .slice ka p.2.list.length kc] 25)).heap.size (w.alloc (.cells #[.int .i64 p.1.k, .int .i64 p.1.n, .int .i64 p.1.s, .string p.1.t, .slice na p.1.ns.length nc, .slice ka p.2.list.length kc] 25)) W → Nd W w.heap.size 0 p.1 na nc ka p.2.list.length kc) := fun W hb => box_nd hb
  have HN : Hid (sizN p = (if chkV p 1 = 0 then (wt p : Int) else 0) ∧ sizD p = (if chkV p 1 = 0 then (dep p : Int) else 0)) := ⟨rfl, rfl⟩
  generalize sizN p = SN at *
  generalize sizD p = SD at *
  generalize chkV p 1 = E at *
  generalize wt p = WP at *
  generalize dep p = DP at *
  clear hv b0 hwf
  go_enter Try.func9, Try.ntmps9
  go_wp2_with fail
  generalize (w.alloc (.cells #[.int .i64 p.1.k, .int .i64 p.1.n, .int .i64 p.1.s, .string p.1.t, .slice na p.1.ns.length nc, .slice ka p.2.list.length kc] 25)) = w1 at *
  refine (HQ.out w1 HV.out).mono ?_
  rintro e w2 ⟨rfl, hb2⟩
  have HB2 : Hid (Below w1.heap.size w1 w2) := hb2
  obtain ⟨c0, c1, c2, c3, c4, c5⟩ := HC.out w2 hb2
  simp only [Nat.zero_add] at c1 c2 c3 c4 c5
  clear hb2 HQ
  by_cases hE : E = 0
  · subst hE
    go_wp2_with fail
    refine (HS.out w2 (HV.out.below HB2.out)).mono ?_
    rintro e w3 ⟨rfl, hb3⟩
    have HB3 : Hid (Below w1.heap.size w1 w3) := HB2.out.trans (hb3.mono HB2.out.size)
    clear hb3 HS
    go_wp2
    go_ret2
    exact ⟨ret_two (by rw [HN.out.1]; simp) (by rw [HN.out.2]; simp), HB0.out.trans (HB3.out.mono HB0.out.size)⟩
  · have hEb : (E == 0) = false := by simp [hE]
    go_wp2
    go_ret2
    exact ⟨ret_two (by rw [HN.out.1, if_neg hE]) (by rw [HN.out.2, if_neg hE]), HB0.out.trans (HB2.out.mono HB0.out.size)⟩
set_option maxRecDepth 8000 in
set_option maxHeartbeats 4000000 in
theorem rSize_any (p : Vt) (hwf : WfV p) (hwt : wt p ≤ 1000000) (na : Option Addr) (nc : Nat) (ka : Option Addr) (kc : Nat) (w : World) (hv : Vl w p na nc ka kc) :
    Calls Try.prog 10 #[.agg #[.int .i64 p.1.k, .int .i64 p.1.n, .int .i64 p.1.s, .string p.1.t, .slice na p.1.ns.length nc, .slice ka p.2.list.length kc]] w fun e w' => e = .returned (.tuple #[.int .i64 (sizN p), .int .i64 (sizD p)]) ∧ Below w.heap.size w w' := by
  have HQ : Hid (∀ W', Vl W' p na nc ka kc → Calls Try.prog 12 #[.agg #[.int .i64 p.1.k, .int .i64 p.1.n, .int .i64 p.1.s, .string p.1.t, .slice na p.1.ns.length nc, .slice ka p.2.list.length kc]] W' fun e w' => e = .returned (.int .i64 (chkV p 1)) ∧ Below W'.heap.size W' w') := fun W' h => rCheck_any p hwf na nc ka kc W' h
  have HS : Hid (∀ W', Vl W' p na nc ka kc → Calls Try.prog 27 #[.agg #[.int .i64 p.1.k, .int .i64 p.1.n, .int .i64 p.1.s, .string p.1.t, .slice na p.1.ns.length nc, .slice ka p.2.list.length kc]] W' fun e w' => e = .returned (.tuple #[.int .i64 (wt p : Int), .int .i64 (dep p : Int)]) ∧ Below W'.heap.size W' w') := fun W' h => rsize_any _ p hwt (Nat.le_refl _) hwf na nc ka kc W' h
  have b0 : Below w.heap.size w (w.alloc (.cells #[.int .i64 p.1.k, .int .i64 p.1.n, .int .i64 p.1.s, .string p.1.t, .slice na p.1.ns.length nc, .slice ka p.2.list.length kc] 25)) := (Below.refl _ _).alloc (Nat.le_refl _) _
  have HV : Hid (Vl (w.alloc (.cells #[.int .i64 p.1.k, .int .i64 p.1.n, .int .i64 p.1.s, .string p.1.t, .slice na p.1.ns.length nc, .slice ka p.2.list.length kc] 25)) p na nc ka kc) := hv.below b0
  have HB0 : Hid _ := b0
  have HC : Hid (∀ W, Below (w.alloc (.cells #[.int .i64 p.1.k, .int .i64 p.1.n, .int .i64 p.1.s, .string p.1.t, .slice na p.1.ns.length nc, .slice ka p.2.list.length kc] 25)).heap.size (w.alloc (.cells #[.int .i64 p.1.k, .int .i64 p.1.n, .int .i64 p.1.s, .string p.1.t, .slice na p.1.ns.length nc, .slice ka p.2.list.length kc] 25)) W → Nd W w.heap.size 0 p.1 na nc ka p.2.list.length kc) := fun W hb => box_nd hb
  have HN : Hid (sizN p = (if chkV p 1 = 0 then (wt p : Int) else 0) ∧ sizD p = (if chkV p 1 = 0 then (dep p : Int) else 0)) := ⟨rfl, rfl⟩
  generalize sizN p = SN at *
  generalize sizD p = SD at *
  generalize chkV p 1 = E at *
  generalize wt p = WP at *
  generalize dep p = DP at *
  clear hv b0 hwf
  go_enter Try.func10, Try.ntmps10
  go_wp2_with fail
  generalize (w.alloc (.cells #[.int .i64 p.1.k, .int .i64 p.1.n, .int .i64 p.1.s, .string p.1.t, .slice na p.1.ns.length nc, .slice ka p.2.list.length kc] 25)) = w1 at *
  refine (HQ.out w1 HV.out).mono ?_
  rintro e w2 ⟨rfl, hb2⟩
  have HB2 : Hid (Below w1.heap.size w1 w2) := hb2
  obtain ⟨c0, c1, c2, c3, c4, c5⟩ := HC.out w2 hb2
  simp only [Nat.zero_add] at c1 c2 c3 c4 c5
  clear hb2 HQ
  by_cases hE : E = 0
  · subst hE
    go_wp2_with fail
    refine (HS.out w2 (HV.out.below HB2.out)).mono ?_
    rintro e w3 ⟨rfl, hb3⟩
    have HB3 : Hid (Below w1.heap.size w1 w3) := HB2.out.trans (hb3.mono HB2.out.size)
    clear hb3 HS
    go_wp2
    go_ret2
    exact ⟨ret_two (by rw [HN.out.1]; simp) (by rw [HN.out.2]; simp), HB0.out.trans (HB3.out.mono HB0.out.size)⟩
  · have hEb : (E == 0) = false := by simp [hE]
    go_wp2
    go_ret2
    exact ⟨ret_two (by rw [HN.out.1, if_neg hE]) (by rw [HN.out.2, if_neg hE]), HB0.out.trans (HB2.out.mono HB0.out.size)⟩
#print axioms rSize_any
end Go.Proofs.Ytiddlpjnfophhaa
