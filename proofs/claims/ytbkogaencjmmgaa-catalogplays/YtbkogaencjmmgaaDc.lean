/-
  Rows that are laid anew; changes of the document's catalog.
-/
import Derived.Test.YtbkogaencjmmgaaDb
namespace Go.Proofs.Ytbkogaencjmmgaa
open Go.RowKit Go.MapKept
set_option linter.unusedVariables false
set_option linter.unusedSimpArgs false
/-- append onto an empty slice: whatever was there stays as it was. -/
theorem run_appE {w : World} (t ty e : TypeId) (size : Nat) (hsz : 0 < size) (ht : Try.prog.underlying t = some (.slice e)) (hI : (Try.prog.info? e).map (fun i => (i.zero.map (·.cells.size), i.size, decide (i.bytes ≤ 1000))) = some (some size, size, true))
    (nb : Nat) (hb : Blk w nb e []) (ax : Option Addr) (m c : Nat) (hnil : ax = none → m = 0 ∧ c = 0) (news : List Value) (hl : news.length = m * size) (hnews : ∀ ad, ax = some ad → ∀ j u, news[j]? = some u → w.cell? (ad.add j) = some u) (h1 : ∀ u ∈ news, u.oneCell' = true) (hm : m ≤ 100000) :
    ∃ v' w', (Builtin.append_ #[t, t] ty #[.slice (some ⟨nb, 0, none⟩) 0 0, .slice ax m c]).run Try.prog w = .ok v' w' ∧ w'.ownsRow 0 e size v' m news ∧ Grow w w' ∧ (v'.ownBlock = some nb ∨ v'.ownBlock = some w.heap.size) := by
  have hown : w.ownsRow 0 e size (.slice (some ⟨nb, 0, none⟩) 0 0) 0 [] := val_row (sp := []) hb (Nat.le_refl _) (by simp) (by unfold maxLen; omega) (by simp)
  cases hq : Try.prog.info? e with
  | none => rw [hq] at hI; cases hI
  | some i =>
    rw [hq] at hI
    simp only [Option.map_some, Option.some.injEq, Prod.mk.injEq] at hI
    obtain ⟨h0, hz1, hz2⟩ := hI
    obtain ⟨z, hz, hzs⟩ : ∃ z, i.zero = some z ∧ z.cells.size = size := by
      cases hzz : i.zero with
      | none => rw [hzz] at h0; cases h0
      | some z => rw [hzz] at h0; exact ⟨z, rfl, by simpa using h0⟩
    have hby : i.bytes ≤ 1000 := of_decide_eq_true hz2
    cases ax with
    | none =>
      obtain ⟨rfl, rfl⟩ := hnil rfl
      have hl : news = [] := List.eq_nil_of_length_eq_zero (by simpa using hl)
      subst hl
      exact ⟨_, w, run_append_owned_none (P := Try.prog) (w := w) 0 t ty e i size ht hq _ 0 [] hown, hown, Grow.refl w, .inl rfl⟩
    | some ad =>
      obtain ⟨v', w', q1, q2, q3, _, q5⟩ := run_append_own_at (P := Try.prog) w 0 t ty e i z size i.bytes ht hq hz hz1 rfl hzs hsz _ 0 [] hown ad m c news hl (hnews ad rfl) h1 (by unfold maxLen; omega) (by
        have : (0 + m) * i.bytes ≤ 100000 * 1000 := Nat.mul_le_mul (by omega) hby
        omega) (Nat.zero_le _)
      refine ⟨v', w', q1, by simpa using q2, ?_, q5⟩
      by_cases h0 : m = 0
      · subst h0
        have hn : news = [] := List.eq_nil_of_length_eq_zero (by simpa using hl)
        subst hn
        have hr := run_append_room (P := Try.prog) (ty := ty) w t e i ht hq nb 0 0 #[] hb ad 0 c [] (by simp) (hnews ad rfl) h1 (Nat.le_refl _) (by simp)
        rw [hr] at q1
        injection q1 with _ q1
        rw [← q1]
        refine ⟨rfl, rfl, rfl, by simp, fun k hk => ?_⟩
        by_cases hkn : k = nb
        · subst hkn
          have := setRow_heap w k #[] #[] e (0, 0) hb
          have hb' : w.heap[k]? = some (.cells #[] e (0, 0)) := hb
          rw [hb']
          simpa using this
        · exact setRow_other w nb k _ hkn
      · have hr := run_append_grow (P := Try.prog) (ty := ty) w t e i z ht hq hz ⟨nb, 0, none⟩ 0 0 [] (by simp) (fun j v hj => by cases hj) ad m c news (by rw [hz1]; exact hl) (hnews ad rfl) (by omega) (by omega) (growslice_fits (by omega) (by
          have : (0 + m) * i.bytes ≤ 100000 * 1000 := Nat.mul_le_mul (by omega) hby
          omega))
        rw [hr] at q1
        injection q1 with _ q1
        rw [← q1]
        exact ((Below.drew (Below.refl _ w)).alloc (Nat.le_refl _) _)
theorem oper_appE {o : Oper} {a : Act} {w : World} {K : Act → World → Prop} {Q : Exit → Act → World → Prop} (s x : Operand) (t e : TypeId) (size : Nat) (ho : o.op = .call { callee := .builtin .append, args := #[s, x], argTypes := #[t, t] }) (hsz : 0 < size) (ht : Try.prog.underlying t = some (.slice e)) (hI : (Try.prog.info? e).map (fun i => (i.zero.map (·.cells.size), i.size, decide (i.bytes ≤ 1000))) = some (some size, size, true))
    (nb : Nat) (hs : a.eval s = .slice (some ⟨nb, 0, none⟩) 0 0) (hb : Blk w nb e []) (ax : Option Addr) (m c : Nat) (hx : a.eval x = .slice ax m c) (hnil : ax = none → m = 0 ∧ c = 0) (news : List Value) (hl : news.length = m * size) (hnews : ∀ ad, ax = some ad → ∀ j u, news[j]? = some u → w.cell? (ad.add j) = some u) (h1 : ∀ u ∈ news, u.oneCell' = true) (hm : m ≤ 100000)
    (h : ∀ v' w', w'.ownsRow 0 e size v' m news → Grow w w' → (v'.ownBlock = some nb ∨ v'.ownBlock = some w.heap.size) → K (a.put o.dst v') w') : Oper.wp Try.prog o a w K Q := by
  obtain ⟨v', w', hr, h2, h3, h4⟩ := run_appE (w := w) t o.type e size hsz ht hI nb hb ax m c hnil news hl hnews h1 hm
  unfold Oper.wp execOp
  simp only [ho, resolve, invoke, builtin, Sem.run_bind, Sem.run_pure, Result.andThen_ok, List.map_toArray, List.map_cons, List.map_nil, hs, hx, hr]
  exact h v' w' h2 h3 h4
theorem wl_appE {ops : Array Oper} {rest : List Oper} {o : Oper} {a : Act} {w : World} {Q : Exit → Act → World → Prop} (hg : o.guard = none) (s x : Operand) (t e : TypeId) (size : Nat) (ho : o.op = .call { callee := .builtin .append, args := #[s, x], argTypes := #[t, t] }) (hsz : 0 < size) (ht : Try.prog.underlying t = some (.slice e)) (hI : (Try.prog.info? e).map (fun i => (i.zero.map (·.cells.size), i.size, decide (i.bytes ≤ 1000))) = some (some size, size, true))
    (nb : Nat) (hs : a.eval s = .slice (some ⟨nb, 0, none⟩) 0 0) (hb : Blk w nb e []) (ax : Option Addr) (m c : Nat) (hx : a.eval x = .slice ax m c) (hnil : ax = none → m = 0 ∧ c = 0) (news : List Value) (hl : news.length = m * size) (hnews : ∀ ad, ax = some ad → ∀ j u, news[j]? = some u → w.cell? (ad.add j) = some u) (h1 : ∀ u ∈ news, u.oneCell' = true) (hm : m ≤ 100000)
    (h : ∀ v' w', w'.ownsRow 0 e size v' m news → Grow w w' → (v'.ownBlock = some nb ∨ v'.ownBlock = some w.heap.size) → wpList Try.prog ops Q rest (a.put o.dst v') w') : wpList Try.prog ops Q (o :: rest) a w :=
  wpList_plain hg fun K hK => oper_appE s x t e size ho hsz ht hI nb hs hb ax m c hx hnil news hl hnews h1 hm fun v' w' h2 h3 h4 => hK _ _ (h v' w' h2 h3 h4)
theorem oper_bs0 {o : Oper} {K : Act → World → Prop} {Q : Exit → Act → World → Prop} {a : Act} {w : World} (t e : TypeId) (hT : (t = 28 ∧ e = 50) ∨ (t = 33 ∧ e = 9)) (ho : o.op = .buildSlice t 0 #[]) (hK : K (a.put o.dst (.slice (some ⟨w.heap.size, 0, none⟩) 0 0)) (w.alloc (.cells #[] e))) : Oper.wp Try.prog o a w K Q := by
  unfold Oper.wp execOp
  rcases hT with ⟨rfl, rfl⟩ | ⟨rfl, rfl⟩
  · simp only [ho]
    go_simp
    exact hK
  · simp only [ho]
    go_simp
    exact hK
theorem oper_bsS {o : Oper} {K : Act → World → Prop} {Q : Exit → Act → World → Prop} {a : Act} {w : World} (t : Nat) (ho : o.op = .buildSlice 33 1 #[(0, .tmp t)]) (s : ByteArray) (hx : a.tmps.getD t undef = .string s) (hK : K (a.put o.dst (.slice (some ⟨w.heap.size, 0, none⟩) 1 1)) (w.alloc (.cells #[.string s] 9))) : Oper.wp Try.prog o a w K Q := by
  have hx' : a.tmps[t]?.getD undef = .string s := by simpa using hx
  unfold Oper.wp execOp
  simp only [ho]
  go_simp
  exact hK
theorem row_cells {w : World} {e k n c : Nat} {a : Option Addr} {xs : List Value} (h : w.ownsRow 0 e k (.slice a n c) n xs) : ∀ ad, a = some ad → ∀ j u, xs[j]? = some u → w.cell? (ad.add j) = some u := by
  intro ad e j u hj
  rcases h.2 with ⟨e1, _⟩ | ⟨g, cap, cur, e1, _⟩
  · injection e1 with e1; rw [e1] at e; cases e
  · injection e1 with e1
    rw [e1] at e
    injection e with e
    subst e
    exact h.cells (g := g) (by rw [e1]; rfl) j u hj
theorem iRt : (Try.prog.info? 50).map (fun i => (i.zero.map (·.cells.size), i.size, decide (i.bytes ≤ 1000))) = some (some 4, 4, true) := by kernel_rfl
theorem szRt (w : World) : (Go.sizeOf 50).run Try.prog w = .ok 4 w := by kernel_rfl
theorem zvRt (w : World) : (zeroValue 50).run Try.prog w = .ok (.agg (tlC 0 ⟨#[]⟩ false (.slice none 0 0)).toArray) w := by kernel_rfl
theorem s28 : (Try.prog.info? 28).map (·.size) = some 1 := by kernel_rfl
theorem s4 : (Try.prog.info? 4).map (·.size) = some 1 := by kernel_rfl
theorem alC_one {M : List TV} (h : ∀ p ∈ M, p.2.oneCell' = true) : ∀ i, ∀ u ∈ alC i M, u.oneCell' = true := by
  induction M with
  | nil => intro i u hu; cases hu
  | cons p r ih =>
    intro i u hu
    rw [alC] at hu
    rcases List.mem_append.1 hu with hu | hu
    · exact tl_one (h p (by simp)) u hu
    · exact ih (fun q hq => h q (by simp [hq])) (i + 1) u hu
theorem RM.added {w W : World} {g : Nat} {lv lv' : Value} {L : List TV} {s : ByteArray} (h : RM w g lv L) (hl : L.length < 64) (hs : s.size ≤ 40) (u : Upd (fun x => x = g) w W) (hb : Blk W g 30 [lv'])
    (hr : W.ownsRow 0 50 4 lv' (L.length + 1) (alC 0 L ++ tlC ((L.length : Int) + 1) s false (.slice none 0 0))) : RM W g lv' (L ++ [(⟨s, [], false⟩, .slice none 0 0)]) := by
  refine ⟨hb, ?_, fun p hp => ?_, ⟨?_, ?_⟩⟩
  · rw [List.length_append, alC_app, Nat.zero_add]; simpa [alC] using hr
  · rcases List.mem_append.1 hp with hp | hp
    · refine own_upd (h.fld p hp) u fun x hx => ?_
      rintro rfl
      exact tag_ne (h.fld p hp) h.blk (by decide) hx
    · obtain rfl := List.mem_singleton.1 hp
      exact World.ownsRow_nil _ _ _ _
  · rw [strip_len, List.length_append]; simp; omega
  · rw [strip_app]
    intro t ht
    rcases List.mem_append.1 ht with ht | ht
    · exact h.ok.ok t ht
    · obtain rfl := List.mem_singleton.1 ht
      exact ⟨hs, by simp, by simp, by simp⟩
theorem RM.changed {w W : World} {g : Nat} {lv : Value} {X Y : List TV} {p p' : TV} (h : RM w g lv (X ++ p :: Y)) (u : Upd (fun x => lv.ownBlock = some x) w W)
    (hr : W.ownsRow 0 50 4 lv (X ++ p :: Y).length (alC 0 (X ++ p' :: Y))) (hf : W.ownsRow 0 9 1 p'.2 p'.1.fs.length (sts p'.1.fs)) (ok : OkT p'.1) : RM W g lv (X ++ p' :: Y) := by
  have hlen : (X ++ p' :: Y).length = (X ++ p :: Y).length := by simp
  refine ⟨h.blk.upd u (fun e => tag_ne h.row h.blk (by decide) e), by rw [hlen]; exact hr, fun q hq => ?_, ⟨?_, fun t ht => ?_⟩⟩
  · have key : ∀ q ∈ X ++ Y, W.ownsRow 0 9 1 q.2 q.1.fs.length (sts q.1.fs) := fun q hq => by
      have hq' : q ∈ X ++ p :: Y := by simp at hq ⊢; rcases hq with hq | hq <;> simp [hq]
      exact own_upd (h.fld q hq') u fun x hx e => tag_ne2 (h.fld q hq') h.row (by decide) hx e
    rcases List.mem_append.1 hq with hq | hq
    · exact key q (by simp [hq])
    · rcases List.mem_cons.1 hq with rfl | hq
      · exact hf
      · exact key q (by simp [hq])
  · rw [strip_len, hlen, ← strip_len]; exact h.ok.len
  · simp only [strip, List.map_append, List.map_cons, List.mem_append, List.mem_cons] at ht
    have hok := h.ok.ok
    simp only [strip, List.map_append, List.map_cons, List.mem_append, List.mem_cons] at hok
    rcases ht with ht | rfl | ht
    · exact hok t (.inl ht)
    · exact ok
    · exact hok t (.inr (.inr ht))
theorem alC_mid (X Y : List TV) (p : TV) (sp : List Value) : alC 0 (X ++ p :: Y) ++ sp = alC 0 X ++ (tlC ((X.length : Int) + 1) p.1.name p.1.gone p.2 ++ (alC (X.length + 1) Y ++ sp)) := by
  rw [alC_app, Nat.zero_add]
  simp [alC]
theorem al_set {X : List TV} {R : List Value} {a b c d v : Value} (j : Nat) (hj : j < 4) : (alC 0 X ++ ([a, b, c, d] ++ R)).set (X.length * 4 + j) v = alC 0 X ++ (([a, b, c, d].set j v) ++ R) := by
  have e : X.length * 4 + j = (alC 0 X).length + j := by rw [alC_len]
  rw [e, List.set_append_right _ _ (by omega), Nat.add_sub_cancel_left, List.set_append_left _ _ (by simpa using hj)]
theorem al_set2 {X : List TV} {R : List Value} {a b c d v : Value} : (alC 0 X ++ (a :: b :: c :: d :: R)).set (X.length * 4 + 2) v = alC 0 X ++ (a :: b :: v :: d :: R) := al_set (R := R) (a := a) (b := b) (c := c) (d := d) 2 (by decide)
theorem al_set3 {X : List TV} {R : List Value} {a b c d v : Value} : (alC 0 X ++ (a :: b :: c :: d :: R)).set (X.length * 4 + 3) v = alC 0 X ++ (a :: b :: c :: v :: R) := al_set (R := R) (a := a) (b := b) (c := c) (d := d) 3 (by decide)
#print axioms RM.changed
#print axioms oper_appE
end Go.Proofs.Ytbkogaencjmmgaa
