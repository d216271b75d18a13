/-
  merkle.half.others: the halves that stand beside a way.
-/
import Derived.Test.YtehkaploinklmabDoorEf
import Derived.WalkSmall
namespace Go.Proofs.YtehkaploinklmabDoor
open Go.RowKit Sh
section
variable {α : Type} {enc : α → List Value} {n : Nat} {w w' : World} {L : List α} {t : TypeId} {base : Nat} {v : Value}
theorem below_grown (g : Below w.heap.size w w') : w.grownBy w' none := ⟨g.os, g.tape, g.output, g.size, fun k hk _ => g.block k hk⟩
theorem OwE.grow (h : OwE enc t n w base v L) (g : Below w.heap.size w w') : OwE enc t n w' base v L := h.kept (below_grown g) (by intro k _; simp)
theorem OwE.alloc (h : OwE enc t n w base v L) (o : Obj) : OwE enc t n (w.alloc o) base v L := h.grow ((Below.refl _ _).alloc (Nat.le_refl _) o)
theorem owe_nil (enc : α → List Value) (t : TypeId) (n : Nat) (w : World) (base : Nat) : OwE enc t n w base (.slice none 0 0) [] := ⟨World.ownsRow_nil w base t n, by simp⟩
theorem es_lit (w : World) (t : TypeId) (x : α) : ES enc n (w.alloc (.cells (enc x).toArray t)) (some ⟨w.heap.size, 0, none⟩) [x] := by
  refine .inr ⟨_, _, rfl, fun i y hy => ?_⟩
  cases i with
  | succ i => simp at hy
  | zero =>
    simp at hy
    subst hy
    rw [Nat.zero_mul, Nat.zero_add]
    exact (blk_new w t (enc x)).all
theorem below_own {B : Nat} {w0 : World} (hb : Below B w0 w) (hB : B ≤ w.heap.size) (h : OwE enc t n w B v L) (hg : w.grownBy w' v.ownBlock) : Below B w0 w' :=
  Below.grown hb hg hB fun k hk => (h.1.lt k hk).1
end
section
variable {ops : Array Oper} {rest : List Oper} {o : Oper} {a : Act} {w : World} {Q : Exit → Act → World → Prop}
theorem app_wl {α : Type} {enc : α → List Value} {n : Nat} (hgd : o.guard = none) (s x : Operand) (t e : TypeId) (ho : o.op = .call { callee := .builtin .append, args := #[s, x], argTypes := #[t, t] }) (ht : Tryd.prog.underlying t = some (.slice e)) (z : List Value) (bytes : Nat)
    (hi : (Tryd.prog.info? e).map (fun i => (i.zero, i.size, i.bytes)) = some (some (.agg z.toArray), n, bytes)) (hz : z.length = n) (hn : 0 < n) (hb : bytes ≤ 1000) (base : Nat) (v : Value) (L M : List α) (hs : a.eval s = v) (hown : OwE enc e n w base v L) (ad : Option Addr) (cap : Nat) (hx : a.eval x = .slice ad M.length cap)
    (hM : ES enc n w ad M) (hnil : ad = none → cap = 0) (hMn : ∀ y ∈ M, (enc y).length = n ∧ ∀ u ∈ enc y, u.oneCell' = true) (hlen : L.length + M.length ≤ 100000000) (hbase : base ≤ w.heap.size)
    (h : ∀ v' w', OwE enc e n w' base v' (L ++ M) → w.grownBy w' v.ownBlock → wpList Tryd.prog ops Q rest (a.put o.dst v') w') : wpList Tryd.prog ops Q (o :: rest) a w :=
  wpList_plain hgd fun _ hK => app_wp s x t e ho ht z bytes hi hz hn hb base v L M hs hown ad cap hx hM hnil hMn hlen hbase fun v' w' h1 h2 => hK _ _ (h v' w' h1 h2)
end
theorem iV : (Tryd.prog.info? 56).map (fun i => (i.zero, i.size, i.bytes)) = some (some (.agg [Value.int .i64 0, .int .i64 0].toArray), 2, 16) := by kernel_rfl
theorem encV_one (x : Nat × Nat) : (encV x).length = 2 ∧ ∀ u ∈ encV x, u.oneCell' = true := ⟨rfl, by simp [encV, Value.oneCell']⟩
theorem bes_len (lev p n : Nat) : ∀ j, (Mk.bes lev p n j).length ≤ j
  | 0 => by simp [Mk.bes]
  | j + 1 => by
    have := bes_len lev p n j
    rw [Mk.bes, List.length_append]
    split <;> simp <;> omega
end Go.Proofs.YtehkaploinklmabDoor
