/-
  Rows of tokens: append; what Lex owes.
-/
import Derived.Test.YtpfiejmhnkcjbaaGreatDoorEG12x
import Derived.Laws.AppendOwnNone
import Derived.Maps.AppendAt
namespace Go.Proofs.YtpfiejmhnkcjbaaGreatDoor
open Go.RowKit Lx
set_option linter.unusedVariables false
set_option linter.unusedSimpArgs false
theorem run_app {w : World} (t ty e : TypeId) (size : Nat) (hsz : 0 < size) (ht : Tryz.prog.underlying t = some (.slice e)) (hI : (Tryz.prog.info? e).map (fun i => (i.zero.map (·.cells.size), i.size, decide (i.bytes ≤ 1000))) = some (some size, size, true))
    (v : Value) (n : Nat) (xs : List Value) (base : Nat) (hbase : base ≤ w.heap.size) (hown : w.ownsRow base e size v n xs) (ax : Option Addr) (m c : Nat) (hnil : ax = none → m = 0 ∧ c = 0) (news : List Value) (hl : news.length = m * size) (hnews : ∀ ad, ax = some ad → ∀ j u, news[j]? = some u → w.cell? (ad.add j) = some u) (h1 : ∀ u ∈ news, u.oneCell' = true) (hb : n + m ≤ 100000) :
    ∃ v' w', (Builtin.append_ #[t, t] ty #[v, .slice ax m c]).run Tryz.prog w = .ok v' w' ∧ w'.ownsRow base e size v' (n + m) (xs ++ news) ∧ w.grownBy w' v.ownBlock ∧ (v'.ownBlock = v.ownBlock ∨ v'.ownBlock = some w.heap.size) := by
  cases hq : Tryz.prog.info? e with
  | none => rw [hq] at hI; cases hI
  | some i =>
    rw [hq] at hI
    simp only [Option.map_some, Option.some.injEq, Prod.mk.injEq] at hI
    obtain ⟨h0, hz1, hz2⟩ := hI
    obtain ⟨z, hz, hzs⟩ : ∃ z, i.zero = some z ∧ z.cells.size = size := by
      cases hzz : i.zero with
      | none => rw [hzz] at h0; cases h0
      | some z => rw [hzz] at h0; exact ⟨z, rfl, by simpa using h0⟩
    have hby : i.bytes ≤ 1000 := of_decide_eq_true hz2
    cases ax with
    | none =>
      obtain ⟨rfl, rfl⟩ := hnil rfl
      have hl : news = [] := List.eq_nil_of_length_eq_zero (by simpa using hl)
      subst hl
      exact ⟨v, w, run_append_owned_none (P := Tryz.prog) (w := w) base t ty e i size ht hq v n xs hown, by simpa using hown, World.grownBy.refl _ _, .inl rfl⟩
    | some ad =>
      obtain ⟨v', w', q1, q2, q3, _, q5⟩ := run_append_own_at (P := Tryz.prog) w base t ty e i z size i.bytes ht hq hz hz1 rfl hzs hsz v n xs hown ad m c news hl (hnews ad rfl) h1 (by unfold maxLen; omega) (by
        have : (n + m) * i.bytes ≤ 100000 * 1000 := Nat.mul_le_mul hb hby
        omega) hbase
      exact ⟨v', w', q1, q2, q3, q5⟩
theorem oper_app {o : Oper} {a : Act} {w : World} {K : Act → World → Prop} {Q : Exit → Act → World → Prop} (s x : Operand) (t e : TypeId) (size : Nat) (ho : o.op = .call { callee := .builtin .append, args := #[s, x], argTypes := #[t, t] }) (hsz : 0 < size) (ht : Tryz.prog.underlying t = some (.slice e)) (hI : (Tryz.prog.info? e).map (fun i => (i.zero.map (·.cells.size), i.size, decide (i.bytes ≤ 1000))) = some (some size, size, true))
    (v : Value) (n : Nat) (xs : List Value) (hs : a.eval s = v) (base : Nat) (hbase : base ≤ w.heap.size) (hown : w.ownsRow base e size v n xs) (ax : Option Addr) (m c : Nat) (hx : a.eval x = .slice ax m c) (hnil : ax = none → m = 0 ∧ c = 0) (news : List Value) (hl : news.length = m * size) (hnews : ∀ ad, ax = some ad → ∀ j u, news[j]? = some u → w.cell? (ad.add j) = some u) (h1 : ∀ u ∈ news, u.oneCell' = true) (hb : n + m ≤ 100000)
    (h : ∀ v' w', w'.ownsRow base e size v' (n + m) (xs ++ news) → w.grownBy w' v.ownBlock → (v'.ownBlock = v.ownBlock ∨ v'.ownBlock = some w.heap.size) → K (a.put o.dst v') w') : Oper.wp Tryz.prog o a w K Q := by
  obtain ⟨v', w', hr, h2, h3, h4⟩ := run_app (w := w) t o.type e size hsz ht hI v n xs base hbase hown ax m c hnil news hl hnews h1 hb
  unfold Oper.wp execOp
  simp only [ho, resolve, invoke, builtin, Sem.run_bind, Sem.run_pure, Result.andThen_ok, List.map_toArray, List.map_cons, List.map_nil, hs, hx, hr]
  exact h v' w' h2 h3 h4
theorem wl_app {ops : Array Oper} {rest : List Oper} {o : Oper} {a : Act} {w : World} {Q : Exit → Act → World → Prop} (hg : o.guard = none) (s x : Operand) (t e : TypeId) (size : Nat) (ho : o.op = .call { callee := .builtin .append, args := #[s, x], argTypes := #[t, t] }) (hsz : 0 < size) (ht : Tryz.prog.underlying t = some (.slice e)) (hI : (Tryz.prog.info? e).map (fun i => (i.zero.map (·.cells.size), i.size, decide (i.bytes ≤ 1000))) = some (some size, size, true))
    (v : Value) (n : Nat) (xs : List Value) (hs : a.eval s = v) (base : Nat) (hbase : base ≤ w.heap.size) (hown : w.ownsRow base e size v n xs) (ax : Option Addr) (m c : Nat) (hx : a.eval x = .slice ax m c) (hnil : ax = none → m = 0 ∧ c = 0) (news : List Value) (hl : news.length = m * size) (hnews : ∀ ad, ax = some ad → ∀ j u, news[j]? = some u → w.cell? (ad.add j) = some u) (h1 : ∀ u ∈ news, u.oneCell' = true) (hb : n + m ≤ 100000)
    (h : ∀ v' w', w'.ownsRow base e size v' (n + m) (xs ++ news) → w.grownBy w' v.ownBlock → (v'.ownBlock = v.ownBlock ∨ v'.ownBlock = some w.heap.size) → wpList Tryz.prog ops Q rest (a.put o.dst v') w') : wpList Tryz.prog ops Q (o :: rest) a w :=
  wpList_plain hg fun K hK => oper_app s x t e size ho hsz ht hI v n xs hs base hbase hown ax m c hx hnil news hl hnews h1 hb fun v' w' h2 h3 h4 => hK _ _ (h v' w' h2 h3 h4)
/-! ### one thing in a row of its own -/
/-! ### tokens -/
def tk1 (x : Tk) : List Value := [.int .i64 (x.1 : Int), .string (ofB x.2.1), .int .i64 (x.2.2 : Int)]
def tkC (L : List Tk) : List Value := L.flatMap tk1
theorem tkC_app (L : List Tk) (k : Nat) (t : List Nat) (p : Nat) : tkC L ++ [.int .i64 (k : Int), .string (ofB t), .int .i64 (p : Int)] = tkC (L ++ [(k, t, p)]) := by simp [tkC, tk1]
theorem iTk : (Tryz.prog.info? 32).map (fun i => (i.zero.map (·.cells.size), i.size, decide (i.bytes ≤ 1000))) = some (some 3, 3, true) := by kernel_rfl
/-- A row of tokens of the call's own. -/
def TkR (B : Nat) (w : World) (v : Value) (L : List Tk) : Prop := w.ownsRow B 32 3 v L.length (tkC L)
theorem TkR.below {B : Nat} {w w' : World} {v : Value} {L : List Tk} (h : TkR B w v L) (g : Below w.heap.size w w') : TkR B w' v L :=
  World.ownsRow.kept (row := none) h ⟨g.os, g.tape, g.output, g.size, fun x hx _ => g.block x hx⟩ (by simpa using Classical.em _)
theorem TkR.slice {B : Nat} {w : World} {v : Value} {L : List Tk} (h : TkR B w v L) : ∃ a c, v = .slice a L.length c := by
  rcases h with ⟨h1, ⟨rfl, h0⟩ | ⟨g, cap, cur, rfl, hg, hh, hle, hm, h5, h6⟩⟩
  · exact ⟨none, 0, by rw [h0]⟩
  · exact ⟨_, cap, rfl⟩
/-- Behind an append of one: only the row's block and new ones are other than before. -/
theorem app_below {B : Nat} {w0 w w' : World} {v : Value} {L : List Tk} (h0 : Below B w0 w) (h : TkR B w v L) (hB : B ≤ w.heap.size) (o : Obj) (g : (w.alloc o).grownBy w' v.ownBlock) : Below B w0 w' := by
  have h1 : Below B w0 (w.alloc o) := h0.alloc hB o
  refine h1.trans ⟨g.os, g.tape, g.output, g.size, fun k hk => g.block k (Nat.lt_of_lt_of_le hk (Nat.le_trans hB (World.grownBy_alloc w o none).size)) fun e => ?_⟩
  have := (World.ownsRow.lt h k e.symm).1
  omega
/-! ### what Lex answers -/
/-- Lex over the first p bytes. -/
def LexU (tx nu : List Nat → Bool) (r : List Nat) (L : List Tk) (p : Nat) : Prop := lexR tx nu r 0 = (L ++ (lexR tx nu (r.drop p) p).1, (lexR tx nu (r.drop p) p).2)
theorem LexU.zero (tx nu : List Nat → Bool) (r : List Nat) : LexU tx nu r [] 0 := rfl
theorem LexU.tok {tx nu : List Nat → Bool} {r : List Nat} {L : List Tk} {p n k : Nat} {t : List Nat} (h : LexU tx nu r L p) (hr : r.drop p ≠ []) (hs : Lx.step tx nu (r.drop p) = .tok k t n) : LexU tx nu r (L ++ [(k, t, p)]) (p + n) := by
  unfold LexU at *
  rw [h, lexR_step tx nu hr, hs]
  simp only [List.drop_drop, List.append_assoc, List.cons_append, List.nil_append]
theorem LexU.bad {tx nu : List Nat → Bool} {r : List Nat} {L : List Tk} {p : Nat} (h : LexU tx nu r L p) (hr : r.drop p ≠ []) (hs : Lx.step tx nu (r.drop p) = .bad) : (lexR tx nu r 0).2 = some p := by
  unfold LexU at h
  rw [h, lexR_step tx nu hr, hs]
theorem LexU.done {tx nu : List Nat → Bool} {r : List Nat} {L : List Tk} {p : Nat} (h : LexU tx nu r L p) (hr : p = r.length) : lexR tx nu r 0 = (L ++ [(8, [], p)], none) := by
  subst hr
  unfold LexU at h
  rw [h, List.drop_of_length_le (Nat.le_refl _), lexR_nil]
/-- What the answer is. -/
def LexA (w : World) (tx nu : List Nat → Bool) (r : List Nat) (e : Ending) (w' : World) : Prop :=
  match (lexR tx nu r 0).2 with
  | some p => e = .returned (.tuple #[.slice none 0 0, .int .i64 (p : Int), .int .i64 12])
  | none => ∃ v, e = .returned (.tuple #[v, .int .i64 0, .int .i64 0]) ∧ TkR w.heap.size w' v (lexR tx nu r 0).1
end Go.Proofs.YtpfiejmhnkcjbaaGreatDoor
