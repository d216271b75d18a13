/-
  Chapter 14: what may change; rows in memory; the map of indexes.
-/
import Derived.Test.YtbkogaencjmmgaaNb
import Derived.Test.YtbkogaencjmmgaaNor
import Derived.Maps.Own
import Derived.DeepKeys5
import Derived.Laws.AppendOwnNone
namespace Go.Proofs.Ytbkogaencjmmgaa
open Go.RowKit
set_option linter.unusedVariables false
set_option linter.unusedSimpArgs false
/-- All but some blocks, and what is new, is as it was. -/
structure Upd (S : Nat → Prop) (w w' : World) : Prop where
  os : w'.os = w.os
  tape : w'.tape = w.tape
  output : w'.output = w.output
  size : w.heap.size ≤ w'.heap.size
  block : ∀ k, k < w.heap.size → ¬ S k → w'.heap[k]? = w.heap[k]?
def Non : Nat → Prop := fun _ => False
theorem Upd.refl (S : Nat → Prop) (w : World) : Upd S w w := ⟨rfl, rfl, rfl, Nat.le_refl _, fun _ _ _ => rfl⟩
theorem Upd.trans {S S' : Nat → Prop} {w w1 w2 : World} (h : Upd S w w1) (k : Upd S' w1 w2) (hs : ∀ x, S' x → x < w.heap.size → S x) : Upd S w w2 :=
  ⟨k.os.trans h.os, k.tape.trans h.tape, k.output.trans h.output, Nat.le_trans h.size k.size, fun x hx hn => (k.block x (Nat.lt_of_lt_of_le hx h.size) (fun q => hn (hs x q hx))).trans (h.block x hx hn)⟩
theorem Upd.of_by {S : Nat → Prop} {w w' : World} {b : Option Nat} (g : w.grownBy w' b) (h : ∀ x, b = some x → S x) : Upd S w w' := ⟨g.os, g.tape, g.output, g.size, fun k hk hn => g.block k hk (fun e => hn (h k e.symm))⟩
theorem Upd.of_below {w w' : World} (S : Nat → Prop) (g : Below w.heap.size w w') : Upd S w w' := ⟨g.os, g.tape, g.output, g.size, fun k hk hn => g.block k hk⟩
theorem Upd.mono {S S' : Nat → Prop} {w w' : World} (h : Upd S w w') (hs : ∀ x, S x → x < w.heap.size → S' x) : Upd S' w w' := ⟨h.os, h.tape, h.output, h.size, fun k hk hn => h.block k hk (fun q => hn (hs k q hk))⟩
theorem Upd.below {S : Nat → Prop} {w0 w w' : World} {n : Nat} (b : Below n w0 w) (h : Upd S w w') (hn : n ≤ w0.heap.size) (hs : ∀ x, S x → n ≤ x) : Below n w0 w' :=
  b.trans ⟨h.os, h.tape, h.output, h.size, fun k hk => h.block k (Nat.lt_of_lt_of_le hk (Nat.le_trans hn b.size)) (fun q => by have := hs k q; omega)⟩
theorem Upd.bel {w w' : World} (h : Upd Non w w') : Below w.heap.size w w' := ⟨h.os, h.tape, h.output, h.size, fun k hk => h.block k hk (fun q => q)⟩
theorem Blk.upd {S : Nat → Prop} {w w' : World} {b : Nat} {t : TypeId} {vs : List Value} (h : Blk w b t vs) (u : Upd S w w') (hn : ¬ S b) : Blk w' b t vs := by unfold Blk; rw [u.block b h.lt hn]; exact h
theorem own_upd {S : Nat → Prop} {w w' : World} {base e size n : Nat} {v : Value} {xs : List Value} (h : w.ownsRow base e size v n xs) (u : Upd S w w') (hn : ∀ x, v.ownBlock = some x → ¬ S x) : w'.ownsRow base e size v n xs := by
  refine ⟨h.1, ?_⟩
  rcases h.2 with hq | ⟨g, cap, cur, rfl, hb, hgg, rest⟩
  · exact .inl hq
  · refine .inr ⟨g, cap, cur, rfl, hb, ?_, rest⟩
    rw [u.block g (Array.getElem?_eq_some_iff.1 hgg).1 (hn g rfl)]
    exact hgg
/-- A row that is owned, as a slice and its block. -/
theorem row_val {w : World} {e k n : Nat} {v : Value} {xs : List Value} (h : w.ownsRow 0 e k v n xs) : ∃ a c, v = .slice a n c ∧ n ≤ c ∧ (n = 0 ∧ a = none ∧ c = 0 ∨ ∃ g sp, a = some ⟨g, 0, none⟩ ∧ Blk w g e (xs ++ sp) ∧ (xs ++ sp).length = c * k ∧ c ≤ maxLen) := by
  rcases h with ⟨h1, ⟨rfl, h0⟩ | ⟨g, cap, cur, rfl, hg, hh, hle, hm, h5, h6⟩⟩
  · exact ⟨none, 0, by rw [h0], by omega, .inl ⟨h0, rfl, rfl⟩⟩
  · refine ⟨_, cap, rfl, hle, .inr ⟨g, cur.toList.drop (n * k), rfl, ?_, ?_, hm⟩⟩
    · unfold Blk
      rw [hh, ← h6, List.take_append_drop]
    · rw [← h6, List.take_append_drop, Array.length_toList, h5]
theorem val_row {w : World} {e k n g c : Nat} {ss sp : List Value} (hb : Blk w g e (ss ++ sp)) (hn : n ≤ c) (hl : (ss ++ sp).length = c * k) (hm : c ≤ maxLen) (hs : ss.length = n * k) : w.ownsRow 0 e k (.slice (some ⟨g, 0, none⟩) n c) n ss :=
  ⟨hs, .inr ⟨g, c, (ss ++ sp).toArray, rfl, Nat.zero_le _, hb, hn, hm, by simpa using hl, by rw [List.toList_toArray, ← hs, List.take_left']; rfl⟩⟩
/-- The block of a row has the row's type. -/
theorem row_tag {w : World} {e k n : Nat} {v : Value} {xs : List Value} (h : w.ownsRow 0 e k v n xs) {x : Nat} (hx : v.ownBlock = some x) : ∃ cs, w.heap[x]? = some (.cells cs e (0, 0)) := by
  rcases h.2 with ⟨rfl, _⟩ | ⟨g, cap, cur, rfl, _, hh, _⟩
  · cases hx
  · injection hx with hx
    subst hx
    exact ⟨cur, hh⟩
theorem row_lt {w : World} {e k n : Nat} {v : Value} {xs : List Value} (h : w.ownsRow 0 e k v n xs) {x : Nat} (hx : v.ownBlock = some x) : x < w.heap.size := (h.lt x hx).2
theorem tag_ne {w : World} {e e' k n : Nat} {v : Value} {xs : List Value} (h : w.ownsRow 0 e k v n xs) {g : Nat} {vs : List Value} (hb : Blk w g e' vs) (hne : e ≠ e') : v.ownBlock ≠ some g := fun hx => by
  obtain ⟨cs, h1⟩ := row_tag h hx
  unfold Blk at hb
  rw [hb] at h1
  injection h1 with h1
  injection h1 with _ h2 _
  exact hne h2.symm
theorem tag_ne2 {w : World} {e e' k k' n n' : Nat} {v v' : Value} {xs xs' : List Value} (h : w.ownsRow 0 e k v n xs) (h' : w.ownsRow 0 e' k' v' n' xs') (hne : e ≠ e') {x : Nat} (hx : v.ownBlock = some x) : v'.ownBlock ≠ some x := fun hx' => by
  obtain ⟨cs, h1⟩ := row_tag h hx
  obtain ⟨cs', h2⟩ := row_tag h' hx'
  rw [h1] at h2
  injection h2 with h2
  injection h2 with _ h3 _
  exact hne h3
/-! ### append onto a row -/
theorem run_app {w : World} (t ty e : TypeId) (size : Nat) (hsz : 0 < size) (ht : Try.prog.underlying t = some (.slice e)) (hI : (Try.prog.info? e).map (fun i => (i.zero.map (·.cells.size), i.size, decide (i.bytes ≤ 1000))) = some (some size, size, true))
    (v : Value) (n : Nat) (xs : List Value) (hown : w.ownsRow 0 e size v n xs) (ax : Option Addr) (m c : Nat) (hnil : ax = none → m = 0 ∧ c = 0) (news : List Value) (hl : news.length = m * size) (hnews : ∀ ad, ax = some ad → ∀ j u, news[j]? = some u → w.cell? (ad.add j) = some u) (h1 : ∀ u ∈ news, u.oneCell' = true) (hb : n + m ≤ 100000) :
    ∃ v' w', (Builtin.append_ #[t, t] ty #[v, .slice ax m c]).run Try.prog w = .ok v' w' ∧ w'.ownsRow 0 e size v' (n + m) (xs ++ news) ∧ w.grownBy w' v.ownBlock ∧ (v'.ownBlock = v.ownBlock ∨ v'.ownBlock = some w.heap.size) := by
  cases hq : Try.prog.info? e with
  | none => rw [hq] at hI; cases hI
  | some i =>
    rw [hq] at hI
    simp only [Option.map_some, Option.some.injEq, Prod.mk.injEq] at hI
    obtain ⟨h0, hz1, hz2⟩ := hI
    obtain ⟨z, hz, hzs⟩ : ∃ z, i.zero = some z ∧ z.cells.size = size := by
      cases hzz : i.zero with
      | none => rw [hzz] at h0; cases h0
      | some z => rw [hzz] at h0; exact ⟨z, rfl, by simpa using h0⟩
    have hby : i.bytes ≤ 1000 := of_decide_eq_true hz2
    cases ax with
    | none =>
      obtain ⟨rfl, rfl⟩ := hnil rfl
      have hl : news = [] := List.eq_nil_of_length_eq_zero (by simpa using hl)
      subst hl
      exact ⟨v, w, run_append_owned_none (P := Try.prog) (w := w) 0 t ty e i size ht hq v n xs hown, by simpa using hown, World.grownBy.refl _ _, .inl rfl⟩
    | some ad =>
      obtain ⟨v', w', q1, q2, q3, _, q5⟩ := run_append_own_at (P := Try.prog) w 0 t ty e i z size i.bytes ht hq hz hz1 rfl hzs hsz v n xs hown ad m c news hl (hnews ad rfl) h1 (by unfold maxLen; omega) (by
        have : (n + m) * i.bytes ≤ 100000 * 1000 := Nat.mul_le_mul hb hby
        omega) (Nat.zero_le _)
      exact ⟨v', w', q1, q2, q3, q5⟩
theorem oper_app {o : Oper} {a : Act} {w : World} {K : Act → World → Prop} {Q : Exit → Act → World → Prop} (s x : Operand) (t e : TypeId) (size : Nat) (ho : o.op = .call { callee := .builtin .append, args := #[s, x], argTypes := #[t, t] }) (hsz : 0 < size) (ht : Try.prog.underlying t = some (.slice e)) (hI : (Try.prog.info? e).map (fun i => (i.zero.map (·.cells.size), i.size, decide (i.bytes ≤ 1000))) = some (some size, size, true))
    (v : Value) (n : Nat) (xs : List Value) (hs : a.eval s = v) (hown : w.ownsRow 0 e size v n xs) (ax : Option Addr) (m c : Nat) (hx : a.eval x = .slice ax m c) (hnil : ax = none → m = 0 ∧ c = 0) (news : List Value) (hl : news.length = m * size) (hnews : ∀ ad, ax = some ad → ∀ j u, news[j]? = some u → w.cell? (ad.add j) = some u) (h1 : ∀ u ∈ news, u.oneCell' = true) (hb : n + m ≤ 100000)
    (h : ∀ v' w', w'.ownsRow 0 e size v' (n + m) (xs ++ news) → w.grownBy w' v.ownBlock → (v'.ownBlock = v.ownBlock ∨ v'.ownBlock = some w.heap.size) → K (a.put o.dst v') w') : Oper.wp Try.prog o a w K Q := by
  obtain ⟨v', w', hr, h2, h3, h4⟩ := run_app (w := w) t o.type e size hsz ht hI v n xs hown ax m c hnil news hl hnews h1 hb
  unfold Oper.wp execOp
  simp only [ho, resolve, invoke, builtin, Sem.run_bind, Sem.run_pure, Result.andThen_ok, List.map_toArray, List.map_cons, List.map_nil, hs, hx, hr]
  exact h v' w' h2 h3 h4
theorem wl_app {ops : Array Oper} {rest : List Oper} {o : Oper} {a : Act} {w : World} {Q : Exit → Act → World → Prop} (hg : o.guard = none) (s x : Operand) (t e : TypeId) (size : Nat) (ho : o.op = .call { callee := .builtin .append, args := #[s, x], argTypes := #[t, t] }) (hsz : 0 < size) (ht : Try.prog.underlying t = some (.slice e)) (hI : (Try.prog.info? e).map (fun i => (i.zero.map (·.cells.size), i.size, decide (i.bytes ≤ 1000))) = some (some size, size, true))
    (v : Value) (n : Nat) (xs : List Value) (hs : a.eval s = v) (hown : w.ownsRow 0 e size v n xs) (ax : Option Addr) (m c : Nat) (hx : a.eval x = .slice ax m c) (hnil : ax = none → m = 0 ∧ c = 0) (news : List Value) (hl : news.length = m * size) (hnews : ∀ ad, ax = some ad → ∀ j u, news[j]? = some u → w.cell? (ad.add j) = some u) (h1 : ∀ u ∈ news, u.oneCell' = true) (hb : n + m ≤ 100000)
    (h : ∀ v' w', w'.ownsRow 0 e size v' (n + m) (xs ++ news) → w.grownBy w' v.ownBlock → (v'.ownBlock = v.ownBlock ∨ v'.ownBlock = some w.heap.size) → wpList Try.prog ops Q rest (a.put o.dst v') w') : wpList Try.prog ops Q (o :: rest) a w :=
  wpList_plain hg fun K hK => oper_app s x t e size ho hsz ht hI v n xs hs hown ax m c hx hnil news hl hnews h1 hb fun v' w' h2 h3 h4 => hK _ _ (h v' w' h2 h3 h4)
/-! ### one thing in a row of its own -/
theorem fold_set : ∀ (cs : List Value) (k : Nat) (Z : List Value), k + cs.length ≤ Z.length → (cs.zipIdx k).foldl (fun (c : Array Value) (p : Value × Nat) => c.setIfInBounds (0 + p.2) p.1) Z.toArray = (Z.take k ++ (cs ++ Z.drop (k + cs.length))).toArray
  | [], k, Z, h => by simp
  | x :: r, k, Z, h => by
    simp only [List.length_cons] at h
    rw [List.zipIdx_cons, List.foldl_cons]
    simp only [Nat.zero_add, List.setIfInBounds_toArray]
    have := fold_set r (k + 1) (Z.set k x) (by rw [List.length_set]; omega)
    simp only [Nat.zero_add] at this
    rw [this]
    congr 1
    have e1 : (Z.set k x).take (k + 1) = Z.take k ++ [x] := by
      rw [List.take_succ_eq_append_getElem (by rw [List.length_set]; omega), List.take_set, List.getElem_set_self]
      rw [List.set_eq_of_length_le (by rw [List.length_take]; omega)]
    have e2 : (Z.set k x).drop (k + 1 + r.length) = Z.drop (k + (r.length + 1)) := by
      rw [List.drop_set_of_lt (by omega)]; congr 1; omega
    rw [e1, e2, List.length_cons]
    simp
theorem fill_one (cs Z : List Value) (n : Nat) (h1 : cs.length = n) (h2 : Z.length = n) : Instr.fill (fun i => some (i * n, n)) Z.toArray [(0, .agg cs.toArray)] = some cs.toArray := by
  have := fold_set cs 0 Z (by omega)
  unfold Instr.fill
  simp only [Value.cells, List.size_toArray, h1, h2, Nat.zero_mul, Nat.zero_add, ne_eq, not_true_eq_false, decide_false, Bool.false_or, gt_iff_lt, Nat.lt_irrefl, Bool.false_eq_true, if_false]
  rw [Instr.fill]
  rw [h1, List.drop_of_length_le (by omega)] at this
  simp only [Nat.zero_add, List.take_zero, List.nil_append, List.append_nil] at this
  congr 1
  simpa using this
theorem bs_one {o : Oper} {a : Act} {w : World} {K : Act → World → Prop} {Q : Exit → Act → World → Prop} (t e : TypeId) (x : Operand) (ho : o.op = .buildSlice t 1 #[(0, x)]) (ht : Try.prog.underlying t = some (.slice e)) (n : Nat) (hn : 0 < n) (hn2 : n ≤ 1000) (z : List Value) (hs : ∀ w, (Go.sizeOf e).run Try.prog w = .ok n w) (hz : ∀ w, (zeroValue e).run Try.prog w = .ok (.agg z.toArray) w) (cs : List Value) (hc : cs.length = n)
    (hx : a.eval x = .agg cs.toArray) (h : K (a.put o.dst (.slice (some ⟨w.heap.size, 0, none⟩) 1 1)) (w.alloc (.cells cs.toArray e))) : Oper.wp Try.prog o a w K Q := by
  unfold Oper.wp execOp
  have hf := fill_one cs ((Array.range (1 * n)).map (fun i => (z.toArray[i % z.toArray.size]!))).toList n hc (by simp)
  simp only [Array.toArray_toList] at hf
  have h0 : ¬ (1 * n = 0) := by omega
  have h1 : ¬ (1 * n > 2 ^ 24) := by omega
  simp only [ho, Instr.buildSlice, Sem.run_bind, run_underlying ht, Result.andThen_ok, hs, hz, h0, h1, if_false, Sem.run_pure, List.map_toArray, List.map_cons, List.map_nil, hx, Value.cells]
  erw [hf]
  simp only [newRow, Sem.run_bind, Sem.run_pure]
  exact h
#print axioms wl_app
end Go.Proofs.Ytbkogaencjmmgaa
