/-
  Parts of slices; the length of a slice, in a region that draws its order.
-/
import Derived.Test.YtfkiciejipcgkaaDoorEj
namespace Go.Proofs.YtfkiciejipcgkaaDoor
open Go Go.RowKit Sh
/-- where a part of a slice of digests begins. -/
def lo (a : Option Addr) (cap k : Nat) : Option Addr := if cap = k then a else a.map (·.add (k * 32))
theorem ES.lo {w : World} {a : Option Addr} {L : List (List Nat)} (h : ES (nums .u8) 32 w a L) (cap k : Nat) (hc : L.length ≤ cap) : ES (nums .u8) 32 w (lo a cap k) (L.drop k) := by
  by_cases hk : L.length ≤ k
  · exact .inl (List.drop_of_length_le hk)
  · rcases h with h | ⟨b, off, rfl, h⟩
    · subst h; simp at hk
    · have e : Go.Proofs.YtfkiciejipcgkaaDoor.lo (some ⟨b, off, none⟩) cap k = some ⟨b, off + k * 32, none⟩ := by
        unfold Go.Proofs.YtfkiciejipcgkaaDoor.lo; rw [if_neg (by omega)]; simp [Addr.add_mid]
      rw [e]
      exact ES.drop (.inr ⟨b, off, rfl, h⟩) k
theorem lo_zero {w : World} {a : Option Addr} {L : List (List Nat)} (h : ES (nums .u8) 32 w a L) (cap : Nat) : ES (nums .u8) 32 w (lo a cap 0) L := by
  rcases h with h | ⟨b, off, rfl, h⟩
  · exact .inl h
  · refine .inr ⟨b, off, ?_, h⟩
    unfold lo
    split <;> simp [Addr.add_mid]
theorem run_lo (a : Option Addr) (len cap k : Nat) (hk : k ≤ len) (_hc : len ≤ cap) (w : World) : (Instr.sliceAt 22 (.slice a len cap) (some (.int .i64 (k : Int))) none none).run Tryd.prog w = .ok (.slice (lo a cap k) (len - k) (cap - k)) w := by
  have h0 : (0 : Int) ≤ (k : Int) ∧ (k : Int) ≤ (len : Int) := ⟨by omega, by omega⟩
  unfold lo
  simp [Instr.sliceAt, Instr.slice, Instr.sliceBounds, Instr.sliceBound, asIntOf, run_underlying Tryd.underlying22, h0, Tryd.sizeOf30]
  intro h; omega
theorem run_hi (a : Option Addr) (len cap k : Nat) (hk : k ≤ cap) (w : World) : (Instr.sliceAt 22 (.slice a len cap) none (some (.int .i64 (k : Int))) none).run Tryd.prog w = .ok (.slice (lo a cap 0) k cap) w := by
  have h0 : (0 : Int) ≤ (k : Int) ∧ (k : Int) ≤ (cap : Int) := ⟨by omega, by omega⟩
  unfold lo
  simp [Instr.sliceAt, Instr.slice, Instr.sliceBounds, Instr.sliceBound, asIntOf, run_underlying Tryd.underlying22, h0, Tryd.sizeOf30]
  intro h; omega
section
variable {o : Oper} {a : Act} {w : World} {K : Act → World → Prop} {Q : Exit → Act → World → Prop}
theorem q_lo {C : World → Prop} {K : Act → Prop} (x y : Operand) (ho : o.op = .slice 22 x (some y) none none) (ad : Option Addr) (len cap k : Nat) (hx : a.eval x = .slice ad len cap) (hy : a.eval y = .int .i64 (k : Int)) (hk : k ≤ len) (hc : len ≤ cap) (h : K (a.put o.dst (.slice (lo ad cap k) (len - k) (cap - k)))) : o.quiet Tryd.prog a C K :=
  ⟨_, fun w _ => by
    unfold Oper.quietAt execOp
    simp only [ho, hx, hy, Option.map_some, Option.map_none, run_lo ad len cap k hk hc, Sem.run_bind, Sem.run_pure, Result.andThen_ok]
    exact ⟨rfl, rfl⟩, h⟩
theorem q_hi {C : World → Prop} {K : Act → Prop} (x y : Operand) (ho : o.op = .slice 22 x none (some y) none) (ad : Option Addr) (len cap k : Nat) (hx : a.eval x = .slice ad len cap) (hy : a.eval y = .int .i64 (k : Int)) (hk : k ≤ cap) (h : K (a.put o.dst (.slice (lo ad cap 0) k cap))) : o.quiet Tryd.prog a C K :=
  ⟨_, fun w _ => by
    unfold Oper.quietAt execOp
    simp only [ho, hx, hy, Option.map_some, Option.map_none, run_hi ad len cap k hk, Sem.run_bind, Sem.run_pure, Result.andThen_ok]
    exact ⟨rfl, rfl⟩, h⟩
theorem oper_len (x : Operand) (t : TypeId) (ho : o.op = .call { callee := .builtin .len, args := #[x], argTypes := #[t] }) (e : TypeId) (ht : Tryd.prog.underlying t = some (.slice e)) (ad : Option Addr) (n cap : Nat) (hx : a.eval x = .slice ad n cap) (hK : K (a.put o.dst (.int .i64 (n : Int))) w) : Oper.wp Tryd.prog o a w K Q := by
  unfold Oper.wp execOp
  simp only [ho, resolve, invoke, builtin, Sem.run_bind, Sem.run_pure, Result.andThen_ok, List.map_toArray, List.map_cons, List.map_nil, hx]
  go_simp
  exact hK
end
end Go.Proofs.YtfkiciejipcgkaaDoor
