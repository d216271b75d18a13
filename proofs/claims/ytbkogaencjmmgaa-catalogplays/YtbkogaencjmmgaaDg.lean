/-
  Copy: rows and maps that are copied.
-/
import Derived.Test.YtbkogaencjmmgaaDc
namespace Go.Proofs.Ytbkogaencjmmgaa
open Go.RowKit Go.MapKept
set_option linter.unusedVariables false
set_option linter.unusedSimpArgs false
theorem nil_row {w : World} {e k n c : Nat} {xs : List Value} (h : w.ownsRow 0 e k (.slice none n c) n xs) : n = 0 ∧ c = 0 := by
  rcases h.2 with ⟨e1, e2⟩ | ⟨_, _, _, e1, _⟩
  · injection e1 with _ e3 e4
    exact ⟨e3, e4⟩
  · cases e1
theorem run_sl_in {P : Program} (w : World) (d : Nat) (t e : TypeId) (a : Option Addr) (n c : Nat) (h : P.underlying t = some (.slice e)) : (Op.equalIn (d + 1) t (.slice a n c) (.slice none 0 0)).run P w = .ok a.isNone w := by
  cases a <;> simp [Op.equalIn, run_underlying h]
theorem run_sl_nil {P : Program} (w : World) (t e : TypeId) (a : Option Addr) (n c : Nat) (h : P.underlying t = some (.slice e)) : (binOp .eql t (.slice a n c) (.slice none 0 0)).run P w = .ok (.bool a.isNone) w := by
  simp only [binOp]
  simp [Op.equal, Op.maxDepth, run_sl_in w 9999 t e a n c h]
theorem cloneS_any (v : Value) (n : Nat) (xs : List Value) (hn : n ≤ 1000) (ho : ∀ u ∈ xs, u.oneCell' = true) (w : World) (h : w.ownsRow 0 9 1 v n xs) :
    Calls Try.prog 37 #[v] w fun e w' => ∃ v', e = .returned v' ∧ Hid (w'.ownsRow 0 9 1 v' n xs ∧ (∀ x, v'.ownBlock = some x → w.heap.size ≤ x) ∧ Below w.heap.size w w') := by
  obtain ⟨a, c, rfl, _, _⟩ := row_val h
  have HR : Hid (w.ownsRow 0 9 1 (.slice a n c) n xs) := h
  have HO : Hid (∀ u ∈ xs, u.oneCell' = true) := ho
  clear h ho
  cases a with
  | none =>
    obtain ⟨rfl, rfl⟩ := nil_row HR.out
    have hq := fun W => run_sl_nil (P := Try.prog) W 33 _ none 0 0 Try.underlying33
    go_enter Try.func37, Try.ntmps37
    go_wp2
    go_ret
    exact ⟨_, rfl, HR.out, by simp [Value.ownBlock], Below.refl _ _⟩
  | some ad =>
    have hq := fun W => run_sl_nil (P := Try.prog) W 33 _ (some ad) n c Try.underlying33
    have HNB : Hid (Blk (w.alloc (.cells #[] 9)) w.heap.size 9 []) := blk_new _ _ _
    have HRA : Hid ((w.alloc (.cells #[] 9)).ownsRow 0 9 1 (.slice (some ad) n c) n xs) := HR.out.alloc _
    have HL : Hid (xs.length = n * 1) := HR.out.1
    go_enter Try.func37, Try.ntmps37
    go_wp2_with (refine wl_appE rfl (.tmp 5) (.tmp 6) 33 9 1 rfl (by decide) Try.underlying33 iSt _ rfl HNB.out (some ad) n c rfl (by simp) xs HL.out (row_cells HRA.out) HO.out (by omega) ?_)
    intro v' w2 hr G ho
    have HF : Hid (w2.ownsRow 0 9 1 v' n xs ∧ (∀ x, v'.ownBlock = some x → w.heap.size ≤ x) ∧ Below w.heap.size w w2) := by
      refine ⟨hr, fun x hx => ?_, ((Below.refl _ w).alloc (Nat.le_refl _) _).trans (G.mono (by simp))⟩
      rcases ho with e | e
      · rw [hx] at e; injection e with e; omega
      · rw [hx] at e; injection e with e; first | omega | (simp at e; omega)
    clear hr G ho HNB HRA HR HO
    go_wp2
    go_ret
    exact ⟨_, rfl, HF.out⟩
theorem cloneT_any (v : Value) (n : Nat) (xs : List Value) (hn : n ≤ 1000) (ho : ∀ u ∈ xs, u.oneCell' = true) (w : World) (h : w.ownsRow 0 87 2 v n xs) :
    Calls Try.prog 36 #[v] w fun e w' => ∃ v', e = .returned v' ∧ Hid (w'.ownsRow 0 87 2 v' n xs ∧ (∀ x, v'.ownBlock = some x → w.heap.size ≤ x) ∧ Below w.heap.size w w') := by
  obtain ⟨a, c, rfl, _, _⟩ := row_val h
  have HR : Hid (w.ownsRow 0 87 2 (.slice a n c) n xs) := h
  have HO : Hid (∀ u ∈ xs, u.oneCell' = true) := ho
  clear h ho
  cases a with
  | none =>
    obtain ⟨rfl, rfl⟩ := nil_row HR.out
    have hq := fun W => run_sl_nil (P := Try.prog) W 66 _ none 0 0 Try.underlying66
    go_enter Try.func36, Try.ntmps36
    go_wp2
    go_ret
    exact ⟨_, rfl, HR.out, by simp [Value.ownBlock], Below.refl _ _⟩
  | some ad =>
    have hq := fun W => run_sl_nil (P := Try.prog) W 66 _ (some ad) n c Try.underlying66
    have HNB : Hid (Blk (w.alloc (.cells #[] 87)) w.heap.size 87 []) := blk_new _ _ _
    have HRA : Hid ((w.alloc (.cells #[] 87)).ownsRow 0 87 2 (.slice (some ad) n c) n xs) := HR.out.alloc _
    have HL : Hid (xs.length = n * 2) := HR.out.1
    go_enter Try.func36, Try.ntmps36
    go_wp2_with (refine wl_appE rfl (.tmp 5) (.tmp 6) 66 87 2 rfl (by decide) Try.underlying66 iTb _ rfl HNB.out (some ad) n c rfl (by simp) xs HL.out (row_cells HRA.out) HO.out (by omega) ?_)
    intro v' w2 hr G ho
    have HF : Hid (w2.ownsRow 0 87 2 v' n xs ∧ (∀ x, v'.ownBlock = some x → w.heap.size ≤ x) ∧ Below w.heap.size w w2) := by
      refine ⟨hr, fun x hx => ?_, ((Below.refl _ w).alloc (Nat.le_refl _) _).trans (G.mono (by simp))⟩
      rcases ho with e | e
      · rw [hx] at e; injection e with e; omega
      · rw [hx] at e; injection e with e; first | omega | (simp at e; omega)
    clear hr G ho HNB HRA HR HO
    go_wp2
    go_ret
    exact ⟨_, rfl, HF.out⟩
/-! ### the map -/
theorem run_mclone {P : Program} (w : World) {r : Nat} {es : Array MapEntry} {clock : Nat} (t : TypeId) (hb : w.heap[r]? = some (.map es clock)) :
    (Extern.MapsClone.clone #[.iface t (.map (some r))]).run P w = .ok (.iface t (.map (some w.heap.size))) (w.alloc (.map es clock)) := by
  have e : Extern.MapsClone.clone #[.iface t (.map (some r))] = (getObj r >>= fun o => match o with
      | .map entries clock => (newObj (.map entries clock) >>= fun n => pure (.iface t (.map (some n))))
      | _ => stuck "maps.clone: a map expected") := rfl
  rw [e]
  simp [MapKept.run_getObj_map hb, Result.andThen, go_sem]
theorem run_tassert {P : Program} (w : World) (t xT k e : TypeId) (v : Value) (h : P.underlying t = some (.map k e)) : (Instr.typeAssert (.iface t v) xT t false).run P w = .ok v w := by
  simp [Instr.typeAssert, run_underlying h, go_sem, Result.andThen]
theorem mclone_any (mv : Value) (H : Int → ByteArray → Prop) (w : World) (h : MapS w mv H) : Calls Try.prog 31 #[mv] w fun e w' => ∃ mv', e = .returned mv' ∧ Hid (MapS w' mv' H ∧ (∀ x, mv' = .map (some x) → w.heap.size ≤ x) ∧ Below w.heap.size w w') := by
  rcases h with ⟨rfl, hno⟩ | ⟨b, es, clock, rfl, hb⟩
  · have hq := fun W => run_eql_map_nil (P := Try.prog) W 68 _ _ none Try.underlying68
    have HN : Hid (∀ id s, ¬ H id s) := hno
    clear hno
    go_enter Try.func31, Try.ntmps31
    go_wp2
    go_ret
    exact ⟨_, rfl, .inl ⟨rfl, HN.out⟩, by simp, Below.refl _ _⟩
  · have hq := fun W => run_eql_map_nil (P := Try.prog) W 68 _ _ (some b) Try.underlying68
    have HB : Hid (MapB w b H es clock) := hb
    have hcl : (callFunc 38 #[.iface 68 (.map (some b))]).run Try.prog w = .ok (.value (.iface 68 (.map (some w.heap.size)))) (w.alloc (.map es clock)) := by
      rw [run_callFunc_extern Try.func38 (by kernel_rfl) (by kernel_rfl) (by kernel_rfl) (e := Extern.MapsClone.clone) (by kernel_rfl), run_mclone w 68 hb.blk]
      rfl
    have hta := fun W v => run_tassert (P := Try.prog) W 68 20 _ _ v Try.underlying68
    clear hb
    go_enter Try.func31, Try.ntmps31
    go_wp2
    go_ret
    refine ⟨_, rfl, .inr ⟨w.heap.size, es, clock, rfl, ⟨(MapKept.heap_alloc w _).1, HB.out.st, HB.out.key, HB.out.all⟩⟩, fun x hx => ?_, (Below.refl _ w).alloc (Nat.le_refl _) _⟩
    injection hx with hx
    injection hx with hx
    omega
#print axioms cloneS_any
#print axioms cloneT_any
#print axioms mclone_any
end Go.Proofs.Ytbkogaencjmmgaa
