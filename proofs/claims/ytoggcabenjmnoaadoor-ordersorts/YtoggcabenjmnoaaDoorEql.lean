/-
  The contract of the document's own Equal.
-/
import Derived.Test.YtoggcabenjmnoaaDoorRck
import Derived.Deep.MidRow
namespace Go.Proofs.YtoggcabenjmnoaaDoor
open Go.RowKit
set_option linter.unusedVariables false
/-- A region that draws its order, walked once, in whatever class of worlds its operations keep. -/
theorem q_region {P : Program} {C : World → Prop} {id : Nat} {Q : Exit → Act → World → Prop} {a : Act} {w : World} {l : List Oper} (hm : P.follows .mixedOrders = true) (hB : Region.lexB .any l.toArray = true) (hC : C { w with drawn := w.drawn + 1 })
    (h : wpQuiet P l.toArray C (fun a' => ∀ w', C w' → Q .normal a' w') l a) : (Code.region id l.toArray true).wp P Q a w :=
  wp_region_quiet hm hB hC (by simpa using h)
theorem q_slice {C : World → Prop} {a : Act} {o : Oper} {K : Act → Prop} (T : TypeId) (x : Operand) (ho : o.op = .load T x) (b k : Nat) (hx : a.eval x = .pointer (some ⟨b, k, none⟩)) (y : Option Addr) (n c : Nat) (hT : T = 32 ∨ T = 22) (hS : ∀ w, C w → w.cell? ⟨b, k, none⟩ = some (.slice y n c))
    (hk : K (a.put o.dst (.slice y n c))) : o.quiet Tryd.prog a C K :=
  ⟨_, fun w hw => by
    have h := hS w hw
    unfold Oper.quietAt execOp
    rcases hT with rfl | rfl <;> simp only [ho, hx] <;> go_simp, hk⟩
theorem q_val {C : World → Prop} {a : Act} {o : Oper} {K : Act → Prop} (x : Operand) (ho : o.op = .load 34 x) (b k : Nat) (hx : a.eval x = .pointer (some ⟨b, k, none⟩)) (h : Hd) (na : Option Addr) (nc : Nat) (ka : Option Addr) (kl kc : Nat) (hS : ∀ w, C w → Nd w b k h na nc ka kl kc)
    (hk : K (a.put o.dst (.agg #[.int .i64 h.k, .int .i64 h.n, .int .i64 h.s, .string h.t, .slice na h.ns.length nc, .slice ka kl kc]))) : o.quiet Tryd.prog a C K :=
  ⟨_, fun w hw => by
    obtain ⟨h0, h1, h2, h3, h4, h5⟩ := hS w hw
    unfold Oper.quietAt execOp
    simp only [ho, hx]
    go_simp, hk⟩
theorem Fo.list_inj : ∀ {f g : Fo}, f.list = g.list → f = g
  | .nil, .nil, _ => rfl
  | .nil, .cons _ _ _, h => by simp [Fo.list] at h
  | .cons _ _ _, .nil, h => by simp [Fo.list] at h
  | .cons h1 k1 r1, .cons h2 k2 r2, h => by
    simp only [Fo.list, List.cons.injEq, Prod.mk.injEq] at h
    obtain ⟨⟨rfl, rfl⟩, h3⟩ := h
    rw [Fo.list_inj h3]
theorem bytes_eq {a b : ByteArray} (h : a.toList = b.toList) : a = b := by
  rw [ByteArray.toList_eq, ByteArray.toList_eq] at h
  cases a; cases b
  simp only [ByteArray.mk.injEq]
  exact Array.ext' h
end Go.Proofs.YtoggcabenjmnoaaDoor
