/-
  strings.IndexByte on the sixteen digits; a byte of a text; two results, the first of them in a cell of its own.
-/
import Derived.Test.YtajikbnnlhokbaaUnh
namespace Go.Proofs.Ytajikbnnlhokbaa
open Go.RowKit Math
/-- The bytes of a text, as numbers. -/
def bn (s : ByteArray) : List Nat := s.data.toList.map UInt8.toNat
theorem bn_len (s : ByteArray) : (bn s).length = s.size := by rw [bn, List.length_map]; rfl
theorem bn_oct (s : ByteArray) : Oct (bn s) := by
  intro x hx
  obtain ⟨u, _, rfl⟩ := List.mem_map.1 hx
  exact u.toNat_lt
theorem bn_at (s : ByteArray) (i : Nat) (hi : i < s.size) : ∃ u : UInt8, s[i]? = some u ∧ u.toNat = (bn s).getD i 0 := by
  refine ⟨s[i], getElem?_pos s i hi, ?_⟩
  have hl : i < s.data.toList.length := hi
  unfold bn
  rw [List.getD_eq_getElem?_getD, List.getElem?_map, List.getElem?_eq_getElem hl]
  rfl
theorem str_idx (s : ByteArray) (i : Nat) (hi : i < s.size) (w : World) : (Instr.index 9 (.string s) (.int .i64 (i : Int))).run Try.prog w = .ok (.int .u8 (((bn s).getD i 0 : Nat) : Int)) w := by
  obtain ⟨u, h1, h2⟩ := bn_at s i hi
  simp [Instr.index, asIntOf, run_underlying Try.underlying9, h1, h2]
/-- Where a byte stands among the digits. -/
def ix (c : Nat) : Int := match nd c with
  | some d => (d : Int)
  | none => -1
theorem ix_at : ∀ c : Nat, c < 256 → Lib.indexByte hexT.data.toList ((c : Int).toNat.toUInt8) = ix c := by
  have h : ∀ c : Fin 256, Lib.indexByte hexT.data.toList (((c.val : Nat) : Int).toNat.toUInt8) = ix c.val := by decide +kernel
  intro c hc
  exact h ⟨c, hc⟩
set_option maxHeartbeats 1000000 in
theorem ibl_any (s : ByteArray) (c : Int) (w : World) :
    Calls Try.prog 31 #[.string s, .int .u8 c] w fun e w' => e = .returned (.int .i64 (Lib.indexByte s.data.toList c.toNat.toUInt8)) ∧ w' = w := by
  go_enter Try.func31, Try.ntmps31
  go_wp2
  rw [run_callFunc_extern Try.func34 (by kernel_rfl) (by kernel_rfl) (by kernel_rfl) (e := Extern.BytealgIndexByte.indexByte) (by kernel_rfl), Lib.run_indexByteString]
  simp only [Result.andThen]
  rw [Oper.upon_value]
  go_wp2
  go_ret
  exact ⟨rfl, rfl⟩
set_option maxHeartbeats 1000000 in
theorem ib_any (c : Nat) (hc : c < 256) (w : World) :
    Calls Try.prog 27 #[.string hexT, .int .u8 (c : Int)] w fun e w' => e = .returned (.int .i64 (ix c)) ∧ w' = w := by
  have hi := ix_at c hc
  generalize hexT = T at hi
  go_enter Try.func27, Try.ntmps27
  go_wp2_with (go_at_call 31; go_must (refine (ibl_any _ _ _).mono ?_; rintro e w1 ⟨rfl, rfl⟩; rw [hi]))
  go_ret
  exact ⟨rfl, rfl⟩
/-- Two results, the first of them a whole row in a cell of its own. -/
theorem res_two {P : Program} {w : World} {fn : Func} {p q : Tmp} {ty : TypeId} (h : fn.results = #[.cell p ty, .tmp q]) (tmps : Array Value) (g : Nat) (t : TypeId) (cs : List Value) (d : TypeDesc)
    (hp : tmps.getD p undef = .pointer (some ⟨g, 0, none⟩)) (hg : Blk w g t cs) (hu : P.underlying ty = some d) (hd : d.isRow = true) (hi : (P.info? ty).map (·.size) = some cs.length) :
    (results fn tmps).run P w = .ok (.tuple #[.agg cs.toArray, tmps.getD q undef]) w := by
  have hp' : tmps[p]?.getD undef = .pointer (some ⟨g, 0, none⟩) := by simpa using hp
  simp [results, h, hp', asAddr, run_loadVar_row w g t ty cs.toArray (0, 0) d hg hu (by cases d <;> simp_all [TypeDesc.isRow]) (by simpa using hi)]
theorem z_built (a : Act) : Try.prog.built 25 ((#[] : Array (Nat × Operand)).map fun p => (p.1, a.eval p.2)).toList = some (nums .u8 zr).toArray := by kernel_rfl
#print axioms ib_any
end Go.Proofs.Ytajikbnnlhokbaa
