/-
  Rows that are owned: as blocks; append, parts, copies of rows of one-cell elements.
-/
import Derived.Test.YteokjfpppmnebaaIi
import Derived.Laws.OwnMore
import Derived.Maps.AppendAt
namespace Go.Proofs.Yteokjfpppmnebaa
open Go.RowKit
set_option linter.unusedVariables false
set_option linter.unusedSimpArgs false
theorem own_upd {S : List Nat} {w w' : World} {base e size n : Nat} {v : Value} {xs : List Value} (h : w.ownsRow base e size v n xs) (u : Upd S w w') (hn : ∀ x, v.ownBlock = some x → x ∉ S) : w'.ownsRow base e size v n xs := by
  refine ⟨h.1, ?_⟩
  rcases h.2 with hq | ⟨g, cap, cur, rfl, hb, hgg, rest⟩
  · exact .inl hq
  · refine .inr ⟨g, cap, cur, rfl, hb, ?_, rest⟩
    rw [u.block g (Array.getElem?_eq_some_iff.1 hgg).1 (hn g rfl)]
    exact hgg
/-- A row that is owned, as a slice and its block. -/
theorem row_val {w : World} {e k n : Nat} {v : Value} {xs : List Value} (h : w.ownsRow 0 e k v n xs) : ∃ a c, v = .slice a n c ∧ n ≤ c ∧ (n = 0 ∧ a = none ∧ c = 0 ∨ ∃ g sp, a = some ⟨g, 0, none⟩ ∧ Blk w g e (xs ++ sp) ∧ (xs ++ sp).length = c * k ∧ c ≤ maxLen) := by
  rcases h with ⟨h1, ⟨rfl, h0⟩ | ⟨g, cap, cur, rfl, hg, hh, hle, hm, h5, h6⟩⟩
  · exact ⟨none, 0, by rw [h0], by omega, .inl ⟨h0, rfl, rfl⟩⟩
  · refine ⟨_, cap, rfl, hle, .inr ⟨g, cur.toList.drop (n * k), rfl, ?_, ?_, hm⟩⟩
    · unfold Blk
      rw [hh, ← h6, List.take_append_drop]
    · rw [← h6, List.take_append_drop, Array.length_toList, h5]
theorem val_row {w : World} {e k n g c : Nat} {ss sp : List Value} (hb : Blk w g e (ss ++ sp)) (hn : n ≤ c) (hl : (ss ++ sp).length = c * k) (hm : c ≤ maxLen) (hs : ss.length = n * k) : w.ownsRow 0 e k (.slice (some ⟨g, 0, none⟩) n c) n ss :=
  ⟨hs, .inr ⟨g, c, (ss ++ sp).toArray, rfl, Nat.zero_le _, hb, hn, hm, by simpa using hl, by rw [List.toList_toArray, ← hs, List.take_left']; rfl⟩⟩
/-- The block of a row has the row's type. -/
theorem row_tag {w : World} {e k n : Nat} {v : Value} {xs : List Value} (h : w.ownsRow 0 e k v n xs) {x : Nat} (hx : v.ownBlock = some x) : ∃ cs, w.heap[x]? = some (.cells cs e (0, 0)) := by
  rcases h.2 with ⟨rfl, _⟩ | ⟨g, cap, cur, rfl, _, hh, _⟩
  · cases hx
  · injection hx with hx
    subst hx
    exact ⟨cur, hh⟩
theorem row_lt {w : World} {e k n : Nat} {v : Value} {xs : List Value} (h : w.ownsRow 0 e k v n xs) {x : Nat} (hx : v.ownBlock = some x) : x < w.heap.size := (h.lt x hx).2
theorem tag_ne {w : World} {e e' k n : Nat} {v : Value} {xs : List Value} (h : w.ownsRow 0 e k v n xs) {g : Nat} {vs : List Value} (hb : Blk w g e' vs) (hne : e ≠ e') : v.ownBlock ≠ some g := fun hx => by
  obtain ⟨cs, h1⟩ := row_tag h hx
  unfold Blk at hb
  rw [hb] at h1
  injection h1 with h1
  injection h1 with _ h2 _
  exact hne h2.symm
theorem tag_ne2 {w : World} {e e' k k' n n' : Nat} {v v' : Value} {xs xs' : List Value} (h : w.ownsRow 0 e k v n xs) (h' : w.ownsRow 0 e' k' v' n' xs') (hne : e ≠ e') {x : Nat} (hx : v.ownBlock = some x) : v'.ownBlock ≠ some x := fun hx' => by
  obtain ⟨cs, h1⟩ := row_tag h hx
  obtain ⟨cs', h2⟩ := row_tag h' hx'
  rw [h1] at h2
  injection h2 with h2
  injection h2 with _ h3 _
  exact hne h3
/-! ### append onto a row -/
theorem run_app {w : World} (t ty e : TypeId) (size : Nat) (hsz : 0 < size) (ht : Try.prog.underlying t = some (.slice e)) (hI : (Try.prog.info? e).map (fun i => (i.zero.map (·.cells.size), i.size, decide (i.bytes ≤ 1000))) = some (some size, size, true))
    (v : Value) (n : Nat) (xs : List Value) (hown : w.ownsRow 0 e size v n xs) (ax : Option Addr) (m c : Nat) (hnil : ax = none → m = 0 ∧ c = 0) (news : List Value) (hl : news.length = m * size) (hnews : ∀ ad, ax = some ad → ∀ j u, news[j]? = some u → w.cell? (ad.add j) = some u) (h1 : ∀ u ∈ news, u.oneCell' = true) (hb : n + m ≤ 100000) :
    ∃ v' w', (Builtin.append_ #[t, t] ty #[v, .slice ax m c]).run Try.prog w = .ok v' w' ∧ w'.ownsRow 0 e size v' (n + m) (xs ++ news) ∧ w.grownBy w' v.ownBlock ∧ (v'.ownBlock = v.ownBlock ∨ v'.ownBlock = some w.heap.size) := by
  cases hq : Try.prog.info? e with
  | none => rw [hq] at hI; cases hI
  | some i =>
    rw [hq] at hI
    simp only [Option.map_some, Option.some.injEq, Prod.mk.injEq] at hI
    obtain ⟨h0, hz1, hz2⟩ := hI
    obtain ⟨z, hz, hzs⟩ : ∃ z, i.zero = some z ∧ z.cells.size = size := by
      cases hzz : i.zero with
      | none => rw [hzz] at h0; cases h0
      | some z => rw [hzz] at h0; exact ⟨z, rfl, by simpa using h0⟩
    have hby : i.bytes ≤ 1000 := of_decide_eq_true hz2
    cases ax with
    | none =>
      obtain ⟨rfl, rfl⟩ := hnil rfl
      have hl : news = [] := List.eq_nil_of_length_eq_zero (by simpa using hl)
      subst hl
      exact ⟨v, w, run_append_owned_none (P := Try.prog) (w := w) 0 t ty e i size ht hq v n xs hown, by simpa using hown, World.grownBy.refl _ _, .inl rfl⟩
    | some ad =>
      obtain ⟨v', w', q1, q2, q3, _, q5⟩ := run_append_own_at (P := Try.prog) w 0 t ty e i z size i.bytes ht hq hz hz1 rfl hzs hsz v n xs hown ad m c news hl (hnews ad rfl) h1 (by unfold maxLen; omega) (by
        have : (n + m) * i.bytes ≤ 100000 * 1000 := Nat.mul_le_mul hb hby
        omega) (Nat.zero_le _)
      exact ⟨v', w', q1, q2, q3, q5⟩
theorem oper_app {o : Oper} {a : Act} {w : World} {K : Act → World → Prop} {Q : Exit → Act → World → Prop} (s x : Operand) (t e : TypeId) (size : Nat) (ho : o.op = .call { callee := .builtin .append, args := #[s, x], argTypes := #[t, t] }) (hsz : 0 < size) (ht : Try.prog.underlying t = some (.slice e)) (hI : (Try.prog.info? e).map (fun i => (i.zero.map (·.cells.size), i.size, decide (i.bytes ≤ 1000))) = some (some size, size, true))
    (v : Value) (n : Nat) (xs : List Value) (hs : a.eval s = v) (hown : w.ownsRow 0 e size v n xs) (ax : Option Addr) (m c : Nat) (hx : a.eval x = .slice ax m c) (hnil : ax = none → m = 0 ∧ c = 0) (news : List Value) (hl : news.length = m * size) (hnews : ∀ ad, ax = some ad → ∀ j u, news[j]? = some u → w.cell? (ad.add j) = some u) (h1 : ∀ u ∈ news, u.oneCell' = true) (hb : n + m ≤ 100000)
    (h : ∀ v' w', w'.ownsRow 0 e size v' (n + m) (xs ++ news) → w.grownBy w' v.ownBlock → (v'.ownBlock = v.ownBlock ∨ v'.ownBlock = some w.heap.size) → K (a.put o.dst v') w') : Oper.wp Try.prog o a w K Q := by
  obtain ⟨v', w', hr, h2, h3, h4⟩ := run_app (w := w) t o.type e size hsz ht hI v n xs hown ax m c hnil news hl hnews h1 hb
  unfold Oper.wp execOp
  simp only [ho, resolve, invoke, builtin, Sem.run_bind, Sem.run_pure, Result.andThen_ok, List.map_toArray, List.map_cons, List.map_nil, hs, hx, hr]
  exact h v' w' h2 h3 h4
theorem wl_app {ops : Array Oper} {rest : List Oper} {o : Oper} {a : Act} {w : World} {Q : Exit → Act → World → Prop} (hg : o.guard = none) (s x : Operand) (t e : TypeId) (size : Nat) (ho : o.op = .call { callee := .builtin .append, args := #[s, x], argTypes := #[t, t] }) (hsz : 0 < size) (ht : Try.prog.underlying t = some (.slice e)) (hI : (Try.prog.info? e).map (fun i => (i.zero.map (·.cells.size), i.size, decide (i.bytes ≤ 1000))) = some (some size, size, true))
    (v : Value) (n : Nat) (xs : List Value) (hs : a.eval s = v) (hown : w.ownsRow 0 e size v n xs) (ax : Option Addr) (m c : Nat) (hx : a.eval x = .slice ax m c) (hnil : ax = none → m = 0 ∧ c = 0) (news : List Value) (hl : news.length = m * size) (hnews : ∀ ad, ax = some ad → ∀ j u, news[j]? = some u → w.cell? (ad.add j) = some u) (h1 : ∀ u ∈ news, u.oneCell' = true) (hb : n + m ≤ 100000)
    (h : ∀ v' w', w'.ownsRow 0 e size v' (n + m) (xs ++ news) → w.grownBy w' v.ownBlock → (v'.ownBlock = v.ownBlock ∨ v'.ownBlock = some w.heap.size) → wpList Try.prog ops Q rest (a.put o.dst v') w') : wpList Try.prog ops Q (o :: rest) a w :=
  wpList_plain hg fun K hK => oper_app s x t e size ho hsz ht hI v n xs hs hown ax m c hx hnil news hl hnews h1 hb fun v' w' h2 h3 h4 => hK _ _ (h v' w' h2 h3 h4)
/-- append onto an empty slice: whatever was there stays as it was. -/
theorem run_appE {w : World} (t ty e : TypeId) (size : Nat) (hsz : 0 < size) (ht : Try.prog.underlying t = some (.slice e)) (hI : (Try.prog.info? e).map (fun i => (i.zero.map (·.cells.size), i.size, decide (i.bytes ≤ 1000))) = some (some size, size, true))
    (nb : Nat) (hb : Blk w nb e []) (ax : Option Addr) (m c : Nat) (hnil : ax = none → m = 0 ∧ c = 0) (news : List Value) (hl : news.length = m * size) (hnews : ∀ ad, ax = some ad → ∀ j u, news[j]? = some u → w.cell? (ad.add j) = some u) (h1 : ∀ u ∈ news, u.oneCell' = true) (hm : m ≤ 100000) :
    ∃ v' w', (Builtin.append_ #[t, t] ty #[.slice (some ⟨nb, 0, none⟩) 0 0, .slice ax m c]).run Try.prog w = .ok v' w' ∧ w'.ownsRow 0 e size v' m news ∧ Grow w w' ∧ (v'.ownBlock = some nb ∨ v'.ownBlock = some w.heap.size) := by
  have hown : w.ownsRow 0 e size (.slice (some ⟨nb, 0, none⟩) 0 0) 0 [] := val_row (sp := []) hb (Nat.le_refl _) (by simp) (by unfold maxLen; omega) (by simp)
  cases hq : Try.prog.info? e with
  | none => rw [hq] at hI; cases hI
  | some i =>
    rw [hq] at hI
    simp only [Option.map_some, Option.some.injEq, Prod.mk.injEq] at hI
    obtain ⟨h0, hz1, hz2⟩ := hI
    obtain ⟨z, hz, hzs⟩ : ∃ z, i.zero = some z ∧ z.cells.size = size := by
      cases hzz : i.zero with
      | none => rw [hzz] at h0; cases h0
      | some z => rw [hzz] at h0; exact ⟨z, rfl, by simpa using h0⟩
    have hby : i.bytes ≤ 1000 := of_decide_eq_true hz2
    cases ax with
    | none =>
      obtain ⟨rfl, rfl⟩ := hnil rfl
      have hl : news = [] := List.eq_nil_of_length_eq_zero (by simpa using hl)
      subst hl
      exact ⟨_, w, run_append_owned_none (P := Try.prog) (w := w) 0 t ty e i size ht hq _ 0 [] hown, hown, Grow.refl w, .inl rfl⟩
    | some ad =>
      obtain ⟨v', w', q1, q2, q3, _, q5⟩ := run_append_own_at (P := Try.prog) w 0 t ty e i z size i.bytes ht hq hz hz1 rfl hzs hsz _ 0 [] hown ad m c news hl (hnews ad rfl) h1 (by unfold maxLen; omega) (by
        have : (0 + m) * i.bytes ≤ 100000 * 1000 := Nat.mul_le_mul (by omega) hby
        omega) (Nat.zero_le _)
      refine ⟨v', w', q1, by simpa using q2, ?_, q5⟩
      by_cases h0 : m = 0
      · subst h0
        have hn : news = [] := List.eq_nil_of_length_eq_zero (by simpa using hl)
        subst hn
        have hr := run_append_room (P := Try.prog) (ty := ty) w t e i ht hq nb 0 0 #[] hb ad 0 c [] (by simp) (hnews ad rfl) h1 (Nat.le_refl _) (by simp)
        rw [hr] at q1
        injection q1 with _ q1
        rw [← q1]
        refine ⟨rfl, rfl, rfl, by simp, fun k hk => ?_⟩
        by_cases hkn : k = nb
        · subst hkn
          have := setRow_heap w k #[] #[] e (0, 0) hb
          have hb' : w.heap[k]? = some (.cells #[] e (0, 0)) := hb
          rw [hb']
          simpa using this
        · exact setRow_other w nb k _ hkn
      · have hr := run_append_grow (P := Try.prog) (ty := ty) w t e i z ht hq hz ⟨nb, 0, none⟩ 0 0 [] (by simp) (fun j v hj => by cases hj) ad m c news (by rw [hz1]; exact hl) (hnews ad rfl) (by omega) (by omega) (growslice_fits (by omega) (by
          have : (0 + m) * i.bytes ≤ 100000 * 1000 := Nat.mul_le_mul (by omega) hby
          omega))
        rw [hr] at q1
        injection q1 with _ q1
        rw [← q1]
        exact ((Below.drew (Below.refl _ w)).alloc (Nat.le_refl _) _)
theorem oper_appE {o : Oper} {a : Act} {w : World} {K : Act → World → Prop} {Q : Exit → Act → World → Prop} (s x : Operand) (t e : TypeId) (size : Nat) (ho : o.op = .call { callee := .builtin .append, args := #[s, x], argTypes := #[t, t] }) (hsz : 0 < size) (ht : Try.prog.underlying t = some (.slice e)) (hI : (Try.prog.info? e).map (fun i => (i.zero.map (·.cells.size), i.size, decide (i.bytes ≤ 1000))) = some (some size, size, true))
    (nb : Nat) (hs : a.eval s = .slice (some ⟨nb, 0, none⟩) 0 0) (hb : Blk w nb e []) (ax : Option Addr) (m c : Nat) (hx : a.eval x = .slice ax m c) (hnil : ax = none → m = 0 ∧ c = 0) (news : List Value) (hl : news.length = m * size) (hnews : ∀ ad, ax = some ad → ∀ j u, news[j]? = some u → w.cell? (ad.add j) = some u) (h1 : ∀ u ∈ news, u.oneCell' = true) (hm : m ≤ 100000)
    (h : ∀ v' w', w'.ownsRow 0 e size v' m news → Grow w w' → (v'.ownBlock = some nb ∨ v'.ownBlock = some w.heap.size) → K (a.put o.dst v') w') : Oper.wp Try.prog o a w K Q := by
  obtain ⟨v', w', hr, h2, h3, h4⟩ := run_appE (w := w) t o.type e size hsz ht hI nb hb ax m c hnil news hl hnews h1 hm
  unfold Oper.wp execOp
  simp only [ho, resolve, invoke, builtin, Sem.run_bind, Sem.run_pure, Result.andThen_ok, List.map_toArray, List.map_cons, List.map_nil, hs, hx, hr]
  exact h v' w' h2 h3 h4
theorem wl_appE {ops : Array Oper} {rest : List Oper} {o : Oper} {a : Act} {w : World} {Q : Exit → Act → World → Prop} (hg : o.guard = none) (s x : Operand) (t e : TypeId) (size : Nat) (ho : o.op = .call { callee := .builtin .append, args := #[s, x], argTypes := #[t, t] }) (hsz : 0 < size) (ht : Try.prog.underlying t = some (.slice e)) (hI : (Try.prog.info? e).map (fun i => (i.zero.map (·.cells.size), i.size, decide (i.bytes ≤ 1000))) = some (some size, size, true))
    (nb : Nat) (hs : a.eval s = .slice (some ⟨nb, 0, none⟩) 0 0) (hb : Blk w nb e []) (ax : Option Addr) (m c : Nat) (hx : a.eval x = .slice ax m c) (hnil : ax = none → m = 0 ∧ c = 0) (news : List Value) (hl : news.length = m * size) (hnews : ∀ ad, ax = some ad → ∀ j u, news[j]? = some u → w.cell? (ad.add j) = some u) (h1 : ∀ u ∈ news, u.oneCell' = true) (hm : m ≤ 100000)
    (h : ∀ v' w', w'.ownsRow 0 e size v' m news → Grow w w' → (v'.ownBlock = some nb ∨ v'.ownBlock = some w.heap.size) → wpList Try.prog ops Q rest (a.put o.dst v') w') : wpList Try.prog ops Q (o :: rest) a w :=
  wpList_plain hg fun K hK => oper_appE s x t e size ho hsz ht hI nb hs hb ax m c hx hnil news hl hnews h1 hm fun v' w' h2 h3 h4 => hK _ _ (h v' w' h2 h3 h4)

/-! ### parts of slices of one-cell elements -/
def lo1 (a : Option Addr) (cap k : Nat) : Option Addr := if cap = k then a else a.map (·.add k)
theorem lo1_lt {g cap k : Nat} (h : k < cap) : lo1 (some ⟨g, 0, none⟩) cap k = some ⟨g, k, none⟩ := by
  unfold lo1
  rw [if_neg (by omega)]
  simp [Addr.add_mid]
theorem run_lo1 (t e : TypeId) (hT : (t = 28 ∧ e = 9) ∨ (t = 29 ∧ e = 3)) (a : Option Addr) (len cap k : Nat) (hk : k ≤ len) (_hc : len ≤ cap) (w : World) : (Instr.sliceAt t (.slice a len cap) (some (.int .i64 (k : Int))) none none).run Try.prog w = .ok (.slice (lo1 a cap k) (len - k) (cap - k)) w := by
  have h0 : (0 : Int) ≤ (k : Int) ∧ (k : Int) ≤ (len : Int) := ⟨by omega, by omega⟩
  unfold lo1
  rcases hT with ⟨rfl, rfl⟩ | ⟨rfl, rfl⟩
  · simp [Instr.sliceAt, Instr.slice, Instr.sliceBounds, Instr.sliceBound, asIntOf, run_underlying Try.underlying28, h0, Try.sizeOf9]
    intro h; omega
  · simp [Instr.sliceAt, Instr.slice, Instr.sliceBounds, Instr.sliceBound, asIntOf, run_underlying Try.underlying29, h0, Try.sizeOf3]
    intro h; omega
theorem run_hi1 (t e : TypeId) (hT : (t = 28 ∧ e = 9) ∨ (t = 29 ∧ e = 3)) (a : Option Addr) (len cap k : Nat) (hk : k ≤ cap) (w : World) : (Instr.sliceAt t (.slice a len cap) none (some (.int .i64 (k : Int))) none).run Try.prog w = .ok (.slice (lo1 a cap 0) k cap) w := by
  have h0 : (0 : Int) ≤ (k : Int) ∧ (k : Int) ≤ (cap : Int) := ⟨by omega, by omega⟩
  unfold lo1
  rcases hT with ⟨rfl, rfl⟩ | ⟨rfl, rfl⟩
  · simp [Instr.sliceAt, Instr.slice, Instr.sliceBounds, Instr.sliceBound, asIntOf, run_underlying Try.underlying28, h0, Try.sizeOf9]
    intro h; omega
  · simp [Instr.sliceAt, Instr.slice, Instr.sliceBounds, Instr.sliceBound, asIntOf, run_underlying Try.underlying29, h0, Try.sizeOf3]
    intro h; omega
section
variable {o : Oper} {a : Act} {w : World} {K : Act → World → Prop} {Q : Exit → Act → World → Prop}
theorem q_lo1 {C : World → Prop} {K : Act → Prop} (t e : TypeId) (hT : (t = 28 ∧ e = 9) ∨ (t = 29 ∧ e = 3)) (x y : Operand) (ho : o.op = .slice t x (some y) none none) (ad : Option Addr) (len cap k : Nat) (hx : a.eval x = .slice ad len cap) (hy : a.eval y = .int .i64 (k : Int)) (hk : k ≤ len) (hc : len ≤ cap) (h : K (a.put o.dst (.slice (lo1 ad cap k) (len - k) (cap - k)))) : o.quiet Try.prog a C K :=
  ⟨_, fun w _ => by
    unfold Oper.quietAt execOp
    simp only [ho, hx, hy, Option.map_some, Option.map_none, run_lo1 t e hT ad len cap k hk hc, Sem.run_bind, Sem.run_pure, Result.andThen_ok]
    exact ⟨rfl, rfl⟩, h⟩
theorem q_hi1 {C : World → Prop} {K : Act → Prop} (t e : TypeId) (hT : (t = 28 ∧ e = 9) ∨ (t = 29 ∧ e = 3)) (x y : Operand) (ho : o.op = .slice t x none (some y) none) (ad : Option Addr) (len cap k : Nat) (hx : a.eval x = .slice ad len cap) (hy : a.eval y = .int .i64 (k : Int)) (hk : k ≤ cap) (h : K (a.put o.dst (.slice (lo1 ad cap 0) k cap))) : o.quiet Try.prog a C K :=
  ⟨_, fun w _ => by
    unfold Oper.quietAt execOp
    simp only [ho, hx, hy, Option.map_some, Option.map_none, run_hi1 t e hT ad len cap k hk, Sem.run_bind, Sem.run_pure, Result.andThen_ok]
    exact ⟨rfl, rfl⟩, h⟩
/-- n elements of a row are copied to place q of it from place p of it. -/
theorem wp_mv (t e : TypeId) (hT : (t = 28 ∧ e = 9) ∨ (t = 29 ∧ e = 3)) (d s : Operand) (ho : o.op = .call { callee := .builtin .copy, args := #[d, s], argTypes := #[t, t] }) (g q p n : Nat) (ad sa : Option Addr) (dl dc sl sc : Nat)
    (hd : a.eval d = .slice ad dl dc) (hs : a.eval s = .slice sa sl sc) (hn : n = min sl dl) (hda : 0 < n → ad = some ⟨g, q, none⟩) (hsa : 0 < n → sa = some ⟨g, p, none⟩)
    (rr ts : List Value) (hb : Blk w g e rr) (hts : ts.length = n) (hq : q + n ≤ rr.length) (hsrc : (rr.drop p).take n = ts) (h1 : ∀ v ∈ ts, v.oneCell' = true)
    (h : ∀ w', Blk w' g e (rr.take q ++ (ts ++ rr.drop (q + n))) → w.grownBy w' (some g) → K (a.put o.dst (goInt n)) w') : Oper.wp Try.prog o a w K Q := by
  have hu : Try.prog.underlying t = some (.slice e) := by
    rcases hT with ⟨rfl, rfl⟩ | ⟨rfl, rfl⟩
    · exact Try.underlying28
    · exact Try.underlying29
  have hz : (Try.prog.info? e).map (·.size) = some 1 := by
    rcases hT with ⟨rfl, rfl⟩ | ⟨rfl, rfl⟩
    · exact s9'
    · exact s3'
  by_cases h0 : n = 0
  · subst h0
    obtain rfl : ts = [] := List.eq_nil_of_length_eq_zero hts
    have hr := run_copy_none (P := Try.prog) w t t o.type e ad sa dl dc sl sc hu hz hn.symm
    unfold Oper.wp execOp
    simp only [ho, resolve, invoke, builtin, Sem.run_bind, Sem.run_pure, Result.andThen_ok, List.map_toArray, List.map_cons, List.map_nil, hd, hs, hr]
    refine h w ?_ (World.grownBy.refl _ _)
    simpa using hb
  · have hp : 0 < n := by omega
    obtain rfl := hda hp
    obtain rfl := hsa hp
    have er : rr = rr.take q ++ ((rr.drop q).take n ++ rr.drop (q + n)) := by rw [← List.drop_drop, List.take_append_drop, List.take_append_drop]
    have hb2 := hb
    rw [er] at hb2
    have hlt : (rr.take q).length = q := by rw [List.length_take]; omega
    refine wp_cp d s t ho e 1 hu hz g q dl dc hd g p sl sc hs n hn ts _ _ _ e hlt hb2 (by rw [hts, List.length_take, List.length_drop]; omega) (by rw [hts, Nat.mul_one]) ?_ h1 h
    intro j v hj
    rw [hb.cell]
    have hjl := (List.getElem?_eq_some_iff.1 hj).1
    rw [hts] at hjl
    rw [← hsrc, List.getElem?_take_of_lt hjl, List.getElem?_drop] at hj
    exact hj
end
end Go.Proofs.Yteokjfpppmnebaa
