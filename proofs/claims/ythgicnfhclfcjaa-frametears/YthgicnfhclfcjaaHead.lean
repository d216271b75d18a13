/-
  The contracts of bytes.Clone and of readHead; one law on slicing from a place on.
-/
import Derived.Test.YthgicnfhclfcjaaEnc
import Derived.Laws.CopyOwn
import Derived.Lib.SliceRun
import Derived.Deep.MidRow
namespace Go.Proofs.Ythgicnfhclfcjaa
open Go.RowKit Math
theorem sl_from {P : Program} {ops : Array Oper} {rest : List Oper} {o : Oper} {a : Act} {w : World} {Q : Exit → Act → World → Prop} (hg : o.guard = none) (T : TypeId) (x y : Operand) (ho : o.op = .slice T x (some y) none none) (elem : TypeId) (hu : P.underlying T = some (.slice elem)) (hsz : ∀ w, (Go.sizeOf elem).run P w = .ok 1 w)
    (b off len cap n : Nat) (hx : a.eval x = .slice (some ⟨b, off, none⟩) len cap) (hy : a.eval y = .int .i64 (n : Int)) (hn : n ≤ len) (hc : len ≤ cap)
    (h : ∀ A, (n < len → A = some ⟨b, off + n, none⟩) → A ≠ none → wpList P ops Q rest (a.put o.dst (.slice A (len - n) (cap - n))) w) : wpList P ops Q (o :: rest) a w := by
  refine wpList_plain hg fun K hK => ?_
  unfold Oper.wp execOp
  have h0 : (0 : Int) ≤ (n : Int) ∧ (n : Int) ≤ (len : Int) := ⟨by omega, by omega⟩
  have hr : (Instr.sliceAt T (.slice (some ⟨b, off, none⟩) len cap) (some (.int .i64 (n : Int))) none none).run P w = .ok (.slice (if cap = n then some ⟨b, off, none⟩ else some ⟨b, off + n, none⟩) (len - n) (cap - n)) w := by
    simp [Instr.sliceAt, Instr.slice, Instr.sliceBounds, Instr.sliceBound, asIntOf, run_underlying hu, h0, hsz, Addr.add_mid]
    omega
  simp only [ho, hx, hy, Option.map_some, Option.map_none, hr, Sem.run_bind, Result.andThen_ok]
  exact hK _ _ (h _ (fun hlt => by rw [if_neg (by omega)]) (by split <;> simp))
set_option maxHeartbeats 1000000 in
theorem bclone_any (x : Option Addr) (c : Nat) (l : List Nat) (w : World) (hb : Byt w x l) (hn : x = none → c = 0) (hl : l.length ≤ 1000000) :
    Calls Try.prog 29 #[.slice x l.length c] w fun e w' => ∃ v, e = .returned v ∧ Own w' w.heap.size v l ∧ Below w.heap.size w w' := by
  cases x with
  | none =>
    have e : l = [] := by
      rcases hb with e | ⟨_, _, e, _⟩
      · exact e
      · cases e
    subst e
    obtain rfl := hn rfl
    have heq : ∀ W, (binOp .eql 22 (.slice none 0 0) (.slice none 0 0)).run Try.prog W = .ok (.bool true) W := fun W => Lib.run_eql_slice_nil W 22 5 none 0 0 0 0 Try.underlying22
    go_enter Try.func29, Try.ntmps29
    go_wp2
    go_ret
    exact ⟨_, rfl, ⟨by simp [vals], .inl ⟨rfl, rfl⟩⟩, Below.refl _ _⟩
  | some ad =>
    have b0 : Below w.heap.size w (w.alloc (.cells #[] 5)) := (Below.refl _ _).alloc (Nat.le_refl _) _
    have hc0 : Hid (Byt (w.alloc (.cells #[] 5)) (some ad) l) := hb.below b0
    have oe : Hid (Own (w.alloc (.cells #[] 5)) w.heap.size (.slice (some ⟨w.heap.size, 0, none⟩) 0 0) []) := own_empty w _ (Nat.le_refl _)
    clear hb
    have heq : ∀ W, (binOp .eql 22 (.slice (some ad) l.length c) (.slice none 0 0)).run Try.prog W = .ok (.bool false) W := fun W => Lib.run_eql_slice_nil W 22 5 (some ad) l.length c 0 0 Try.underlying22
    go_enter Try.func29, Try.ntmps29
    go_wp2_with (at_builtin; go_must (refine app_bytes rfl (.tmp 5) (.tmp 6) rfl w.heap.size _ [] rfl oe.out (some ad) _ c l rfl rfl hc0.out hn (by simp; omega) (by simp) ?_))
    intro v1 w1 o1 g1
    have b1 := below_app b0 (by simp) oe.out g1
    clear g1 b0 oe hc0
    go_wp2
    go_ret
    exact ⟨_, rfl, o1, b1⟩
/-- How many bytes the record at the beginning holds, and the error. -/
def rh (l : List Nat) : Nat × Nat :=
  if l.length < 8 then (0, 2) else
  if num ((l.drop 4).take 4) ≠ sm (l.take 4) then (0, 4) else
  if 524288 < num (l.take 4) then (0, 5) else (num (l.take 4), 0)
theorem duo64 {r : Nat × Nat} {a b : Nat} (h : r = (a, b)) {x y : Int} (hx : x = a) (hy : y = b) : Ending.returned (.tuple #[.int .i64 x, .int .i64 y]) = Ending.returned (.tuple #[.int .i64 r.1, .int .i64 r.2]) := by
  subst h hx hy; rfl
set_option maxRecDepth 8000 in
set_option maxHeartbeats 1000000 in
theorem rh_any (a : Option Addr) (cap : Nat) (l : List Nat) (hn : l.length ≤ 1000000) (hlc : l.length ≤ cap) (w : World) (hc : Byt w a l) (hb : Oct l) :
    Calls Try.prog 27 #[.slice a l.length cap] w fun e w' => e = .returned (.tuple #[.int .i64 (rh l).1, .int .i64 (rh l).2]) ∧ Below w.heap.size w w' := by
  have HR : Hid (Calls Try.prog 32 #[.slice a l.length cap] w fun e w' => e = .returned (duo .u64 (rbg l)) ∧ w' = w) := rb_any a cap l hn hlc w hc hb
  by_cases h8 : l.length < 8
  · have HZ : Hid (rh l = (0, 2)) := by show _ = _; unfold rh; rw [if_pos h8]
    have HR' : Hid (Calls Try.prog 32 #[.slice a l.length cap] w fun e w' => e = .returned (.tuple #[.int .u64 0, .int .i64 2]) ∧ w' = w) := by
      have := HR.out
      rw [show rbg l = (0, 2) by unfold rbg; rw [if_pos h8]] at this
      exact this
    clear hc hb HR
    go_enter Try.func27, Try.ntmps27
    go_wp2_with fail
    refine HR'.out.mono ?_
    rintro e wx ⟨rfl, hw⟩
    rw [hw]
    clear hw wx
    go_wp2
    go_ret2
    exact ⟨duo64 HZ.out rfl rfl, Below.refl _ _⟩
  have h8' : 8 ≤ l.length := by omega
  have oA : Oct (l.take 4) := oct_take hb 4
  have lA : (l.take 4).length = 4 := by rw [List.length_take]; omega
  have oB : Oct ((l.drop 4).take 4) := oct_take (oct_drop hb 4) 4
  have lB : ((l.drop 4).take 4).length = 4 := by simp; omega
  have hA := num_lt4 lA oA
  have hB := num_lt4 lB oB
  have hS := sm_lt (l.take 4)
  have HR' : Hid (Calls Try.prog 32 #[.slice a l.length cap] w fun e w' => e = .returned (.tuple #[.int .u64 ((num (l.take 4) * 4294967296 + num ((l.drop 4).take 4) : Nat) : Int), .int .i64 0]) ∧ w' = w) := by
    have := HR.out
    rw [show rbg l = (num (l.take 4) * 4294967296 + num ((l.drop 4).take 4), 0) by unfold rbg; rw [if_neg h8, num8 l h8']] at this
    exact this
  have HH : Hid (∀ W : World, Calls Try.prog 22 #[.int .u32 ((num (l.take 4) : Nat) : Int)] W fun e w' => e = .returned (.int .u64 ((num (l.take 4) * 4294967296 + sm (l.take 4) : Nat) : Int)) ∧ Below W.heap.size W w') := fun W => by
    have := head_any (num (l.take 4)) hA W
    rw [hf_num lA oA] at this
    exact this
  have hR : rh l = if num ((l.drop 4).take 4) ≠ sm (l.take 4) then (0, 4) else if 524288 < num (l.take 4) then (0, 5) else (num (l.take 4), 0) := by unfold rh; rw [if_neg h8]
  have HZ : Hid (rh l = if num ((l.drop 4).take 4) ≠ sm (l.take 4) then (0, 4) else if 524288 < num (l.take 4) then (0, 5) else (num (l.take 4), 0)) := hR
  clear hR HR hc hb h8 oA lA oB lB h8'
  generalize num (l.take 4) = A at *
  generalize num ((l.drop 4).take 4) = B at *
  generalize sm (l.take 4) = S at *
  obtain ⟨x, hx, HX⟩ : ∃ x : Nat, (x : Int) / 4294967296 = (A : Int) ∧ Hid (x = A * 4294967296 + B ∧ x < 18446744073709551616) := ⟨A * 4294967296 + B, by omega, rfl, by omega⟩
  obtain ⟨y, HY⟩ : ∃ y : Nat, Hid (y = A * 4294967296 + S) := ⟨_, rfl⟩
  have HR2 : Hid (Calls Try.prog 32 #[.slice a l.length cap] w fun e w' => e = .returned (.tuple #[.int .u64 (x : Int), .int .i64 0]) ∧ w' = w) := by rw [HX.out.1]; exact HR'.out
  have HH2 : Hid (∀ W : World, Calls Try.prog 22 #[.int .u32 (A : Int)] W fun e w' => e = .returned (.int .u64 (y : Int)) ∧ Below W.heap.size W w') := by rw [HY.out]; exact HH.out
  clear HR' HH
  have hx64 := HX.out.2
  by_cases h2 : B = S
  case neg =>
    have hne : ((x : Int) != (y : Int)) = true := by
      have h1 := HX.out.1
      have h3 := HY.out
      simp; omega
    have HZ2 : Hid (rh l = (0, 4)) := by show _ = _; rw [HZ.out, if_pos h2]
    clear HZ h2
    go_enter Try.func27, Try.ntmps27
    go_wp2_with fail
    refine HR2.out.mono ?_
    rintro e wx ⟨rfl, hw⟩
    rw [hw]
    clear hw wx HR2
    go_wp2_with fail
    refine (HH2.out w).mono ?_
    rintro e w1 ⟨rfl, b1⟩
    clear HH2
    go_wp2
    go_ret2
    exact ⟨duo64 HZ2.out rfl rfl, b1⟩
  have hne : ((x : Int) != (y : Int)) = false := by
    have h1 := HX.out.1
    have h3 := HY.out
    simp; omega
  by_cases h3 : 524288 < A
  · have HZ2 : Hid (rh l = (0, 5)) := by show _ = _; rw [HZ.out, if_neg (by simpa using h2), if_pos h3]
    clear HZ h2
    go_enter Try.func27, Try.ntmps27
    go_wp2_with fail
    refine HR2.out.mono ?_
    rintro e wx ⟨rfl, hw⟩
    rw [hw]
    clear hw wx HR2
    go_wp2_with fail
    refine (HH2.out w).mono ?_
    rintro e w1 ⟨rfl, b1⟩
    clear HH2
    go_wp2
    go_ret2
    exact ⟨duo64 HZ2.out rfl rfl, b1⟩
  · have HZ2 : Hid (rh l = (A, 0)) := by show _ = _; rw [HZ.out, if_neg (by simpa using h2), if_neg h3]
    clear HZ h2
    go_enter Try.func27, Try.ntmps27
    go_wp2_with fail
    refine HR2.out.mono ?_
    rintro e wx ⟨rfl, hw⟩
    rw [hw]
    clear hw wx HR2
    go_wp2_with fail
    refine (HH2.out w).mono ?_
    rintro e w1 ⟨rfl, b1⟩
    clear HH2
    go_wp2
    go_ret2
    exact ⟨duo64 HZ2.out rfl rfl, b1⟩
end Go.Proofs.Ythgicnfhclfcjaa
