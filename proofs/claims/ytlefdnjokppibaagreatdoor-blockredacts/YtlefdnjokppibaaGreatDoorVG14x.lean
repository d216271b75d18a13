/-
  An array of bytes is held against itself: the answer is true. · Entries and blocks in memory. · The contracts of digest.turn and of the document's own r: a word turned to the right. · The contract of digest.spread: the words of a block.
-/
import Derived.Test.YtlefdnjokppibaaGreatDoorVG13x
import Derived.ChangeKeysEq
import Derived.Test.YtlefdnjokppibaaGreatDoorVClo
import Derived.BigRegion
namespace Go.Proofs.YtlefdnjokppibaaGreatDoor.Sh
open Go.RowKit Mt
theorem cells5 : Tryz.prog.cellsOf 5 = 1 := by kernel_rfl
end Go.Proofs.YtlefdnjokppibaaGreatDoor.Sh
namespace Go.Proofs.YtlefdnjokppibaaGreatDoor.Sh
open Go.RowKit Math Mt
set_option linter.unusedVariables false
/-- An entry's cells. -/
def eC (e : En) (na : Option Addr) (nc : Nat) (ka : Option Addr) (kc : Nat) : List Value :=
  [.int .i64 e.k, .string e.t, .int .i64 e.tb, .int .i64 e.dc, .int .i64 e.vr] ++ (six e.v.1 na nc ka e.v.2.list.length kc ++ (nums .u8 e.h ++ [.bool e.g, .int .i64 e.ab, .int .i64 e.ae]))
/-- A block's cells. -/
def bC (b : Bk) (a : Option Addr) (c : Nat) : List Value := [.int .i64 b.ix, .int .i64 b.tm, .int .i64 b.tx] ++ (nums .u8 b.pv ++ [.slice a b.es.length c])
theorem eC_len {e : En} (h : e.h.length = 32) (na : Option Addr) (nc : Nat) (ka : Option Addr) (kc : Nat) : (eC e na nc ka kc).length = 46 := by
  unfold eC six
  simp only [List.length_append, List.length_cons, List.length_nil, nums_length, h]
theorem bC_len {b : Bk} (h : b.pv.length = 32) (a : Option Addr) (c : Nat) : (bC b a c).length = 36 := by
  unfold bC
  simp only [List.length_append, List.length_cons, List.length_nil, nums_length, h]
theorem eC_one (e : En) (na : Option Addr) (nc : Nat) (ka : Option Addr) (kc : Nat) : ∀ u ∈ eC e na nc ka kc, u.oneCell' = true := by
  intro u hu
  unfold eC at hu
  simp only [List.mem_append] at hu
  rcases hu with hu | hu | hu | hu
  · simp only [List.mem_cons, List.not_mem_nil, or_false] at hu; rcases hu with rfl | rfl | rfl | rfl | rfl <;> rfl
  · exact six_one _ _ _ _ _ _ u hu
  · exact nums_one _ _ u hu
  · simp only [List.mem_cons, List.not_mem_nil, or_false] at hu; rcases hu with rfl | rfl | rfl <;> rfl
theorem bC_one (b : Bk) (a : Option Addr) (c : Nat) : ∀ u ∈ bC b a c, u.oneCell' = true := by
  intro u hu
  unfold bC at hu
  simp only [List.mem_append] at hu
  rcases hu with hu | hu | hu
  · simp only [List.mem_cons, List.not_mem_nil, or_false] at hu; rcases hu with rfl | rfl | rfl <;> rfl
  · exact nums_one _ _ u hu
  · simp only [List.mem_cons, List.not_mem_nil, or_false] at hu; rw [hu]; rfl
/-- An entry's cells in memory, and what its Data lead to. -/
structure EnM (w : World) (b o : Nat) (e : En) (na : Option Addr) (nc : Nat) (ka : Option Addr) (kc : Nat) : Prop where
  at' : w.rangeAt b o (eC e na nc ka kc)
  vl : Vl w e.v na nc ka kc
/-- Entries in memory. -/
def EsM (w : World) (a : Option Addr) (es : List En) : Prop := es = [] ∨ ∃ b o, a = some ⟨b, o, none⟩ ∧ ∀ i e, es[i]? = some e → ∃ na nc ka kc, EnM w b (o + i * 46) e na nc ka kc
theorem range_below {w w' : World} {b o : Nat} {cs : List Value} (h : w.rangeAt b o cs) (g : Below w.heap.size w w') : w'.rangeAt b o cs := fun j v hj => by
  have := h j v hj
  exact (g.cell (p := ⟨b, o + j, none⟩) (cell_lt this)).trans this
theorem EnM.below {w w' : World} {b o : Nat} {e : En} {na : Option Addr} {nc : Nat} {ka : Option Addr} {kc : Nat} (h : EnM w b o e na nc ka kc) (g : Below w.heap.size w w') : EnM w' b o e na nc ka kc := ⟨range_below h.at' g, h.vl.below g⟩
theorem EsM.below {w w' : World} {a : Option Addr} {es : List En} (h : EsM w a es) (g : Below w.heap.size w w') : EsM w' a es := by
  rcases h with h | ⟨b, o, rfl, h⟩
  · exact .inl h
  · refine .inr ⟨b, o, rfl, fun i e he => ?_⟩
    obtain ⟨na, nc, ka, kc, h1⟩ := h i e he
    exact ⟨na, nc, ka, kc, h1.below g⟩
theorem EsM.get {w : World} {a : Option Addr} {es : List En} (h : EsM w a es) {i : Nat} {e : En} (he : es[i]? = some e) : ∃ b o na nc ka kc, a = some ⟨b, o, none⟩ ∧ EnM w b (o + i * 46) e na nc ka kc := by
  rcases h with rfl | ⟨b, o, rfl, h⟩
  · simp at he
  · obtain ⟨na, nc, ka, kc, h1⟩ := h i e he
    exact ⟨b, o, na, nc, ka, kc, rfl, h1⟩
/-- The parts of an entry's cells. -/
theorem eC_data (e : En) (na : Option Addr) (nc : Nat) (ka : Option Addr) (kc : Nat) (j : Nat) (u : Value) (h : (six e.v.1 na nc ka e.v.2.list.length kc)[j]? = some u) : (eC e na nc ka kc)[5 + j]? = some u := by
  unfold eC
  rw [List.getElem?_append_right (by simp), List.getElem?_append_left (by
    have := (List.getElem?_eq_some_iff.1 h).1
    simpa using this)]
  simpa using h
theorem eC_hash (e : En) (na : Option Addr) (nc : Nat) (ka : Option Addr) (kc : Nat) (j : Nat) (u : Value) (h : (nums .u8 e.h)[j]? = some u) : (eC e na nc ka kc)[11 + j]? = some u := by
  unfold eC
  rw [List.getElem?_append_right (by simp; omega), List.getElem?_append_right (by simp [six]; omega), List.getElem?_append_left (by
    have := (List.getElem?_eq_some_iff.1 h).1
    simp only [List.length_cons, List.length_nil, six]; omega)]
  rw [show 11 + j - [Value.int .i64 e.k, .string e.t, .int .i64 e.tb, .int .i64 e.dc, .int .i64 e.vr].length - (six e.v.1 na nc ka e.v.2.list.length kc).length = j by simp [six]; omega]
  exact h
theorem eC_end (e : En) (hl : e.h.length = 32) (na : Option Addr) (nc : Nat) (ka : Option Addr) (kc : Nat) (j : Nat) (u : Value) (h : [Value.bool e.g, .int .i64 e.ab, .int .i64 e.ae][j]? = some u) : (eC e na nc ka kc)[43 + j]? = some u := by
  unfold eC
  rw [List.getElem?_append_right (by simp; omega), List.getElem?_append_right (by simp [six]; omega), List.getElem?_append_right (by simp [six, nums_length, hl]; omega)]
  rw [show 43 + j - [Value.int .i64 e.k, .string e.t, .int .i64 e.tb, .int .i64 e.dc, .int .i64 e.vr].length - (six e.v.1 na nc ka e.v.2.list.length kc).length - (nums .u8 e.h).length = j by simp [six, nums_length, hl]; omega]
  exact h
theorem bC_hash (b : Bk) (a : Option Addr) (c : Nat) (j : Nat) (u : Value) (h : (nums .u8 b.pv)[j]? = some u) : (bC b a c)[3 + j]? = some u := by
  unfold bC
  rw [List.getElem?_append_right (by simp), List.getElem?_append_left (by
    have := (List.getElem?_eq_some_iff.1 h).1
    simpa using this)]
  simpa using h
theorem bC_end (b : Bk) (hl : b.pv.length = 32) (a : Option Addr) (c : Nat) : (bC b a c)[35]? = some (.slice a b.es.length c) := by
  unfold bC
  rw [List.getElem?_append_right (by simp), List.getElem?_append_right (by simp [nums_length, hl])]
  simp [nums_length, hl]
/-- The fields of an entry that lies in memory. -/
structure EnF (w : World) (b o : Nat) (e : En) (na : Option Addr) (nc : Nat) (ka : Option Addr) (kc : Nat) : Prop where
  k : w.cell? ⟨b, o, none⟩ = some (.int .i64 e.k)
  t : w.cell? ⟨b, o + 1, none⟩ = some (.string e.t)
  tb : w.cell? ⟨b, o + 2, none⟩ = some (.int .i64 e.tb)
  dc : w.cell? ⟨b, o + 3, none⟩ = some (.int .i64 e.dc)
  vr : w.cell? ⟨b, o + 4, none⟩ = some (.int .i64 e.vr)
  v : w.rangeAt b (o + 5) (six e.v.1 na nc ka e.v.2.list.length kc)
  h : w.rangeAt b (o + 11) (nums .u8 e.h)
  g : w.cell? ⟨b, o + 43, none⟩ = some (.bool e.g)
  ab : w.cell? ⟨b, o + 44, none⟩ = some (.int .i64 e.ab)
  ae : w.cell? ⟨b, o + 45, none⟩ = some (.int .i64 e.ae)
theorem enF_of {w : World} {b o : Nat} {e : En} (hl : e.h.length = 32) {na : Option Addr} {nc : Nat} {ka : Option Addr} {kc : Nat} (h : w.rangeAt b o (eC e na nc ka kc)) : EnF w b o e na nc ka kc :=
  ⟨h 0 _ rfl, h 1 _ rfl, h 2 _ rfl, h 3 _ rfl, h 4 _ rfl, fun j u hj => by rw [Nat.add_assoc]; exact h (5 + j) u (eC_data e na nc ka kc j u hj),
   fun j u hj => by rw [Nat.add_assoc]; exact h (11 + j) u (eC_hash e na nc ka kc j u hj), h 43 _ (eC_end e hl na nc ka kc 0 _ rfl), h 44 _ (eC_end e hl na nc ka kc 1 _ rfl), h 45 _ (eC_end e hl na nc ka kc 2 _ rfl)⟩
structure BkF (w : World) (g : Nat) (b : Bk) (a : Option Addr) (c : Nat) : Prop where
  ix : w.cell? ⟨g, 0, none⟩ = some (.int .i64 b.ix)
  tm : w.cell? ⟨g, 1, none⟩ = some (.int .i64 b.tm)
  tx : w.cell? ⟨g, 2, none⟩ = some (.int .i64 b.tx)
  pv : w.rangeAt g 3 (nums .u8 b.pv)
  es : w.cell? ⟨g, 35, none⟩ = some (.slice a b.es.length c)
theorem bkF_of {w : World} {g : Nat} {b : Bk} (hl : b.pv.length = 32) {a : Option Addr} {c : Nat} {t : TypeId} (h : Blk w g t (bC b a c)) : BkF w g b a c :=
  ⟨h.cell 0, h.cell 1, h.cell 2, fun j u hj => by rw [h.cell]; exact bC_hash b a c j u hj, by rw [h.cell]; exact bC_end b hl a c⟩
/-- A load of several cells, behind a guard that is met or none. -/
theorem ld_w {P : Program} {ops : Array Oper} {rest : List Oper} {o : Oper} {a : Act} {w : World} {Q : Exit → Act → World → Prop} (hw : Region.wanted o (yielded ops a.tmps) = true) (ty : TypeId) (x : Operand) (ho : o.op = .load ty x) (b k : Nat) (hx : a.eval x = .pointer (some ⟨b, k, none⟩)) (cs : List Value) (d : TypeDesc) (hS : w.rangeAt b k cs) (hu : P.underlying ty = some d) (hd : d.isRow = true) (hi : (P.info? ty).map (·.size) = some cs.length)
    (h : wpList P ops Q rest (a.put o.dst (.agg cs.toArray)) w) : wpList P ops Q (o :: rest) a w :=
  wpList_step fun _ hK => by rw [if_pos hw]; exact wp_load_mid ty x ho b k hx cs d hS hu hd hi (hK _ _ h)
/-! ### digests are held against each other -/
theorem items_eq (d : Nat) (l m : List Nat) (hlm : l.length = m.length) (w : World) : ∀ is : List Nat, (∀ i ∈ is, i < l.length) → (Op.eqItems (d + 1) 5 1 (nums .u8 l).toArray (nums .u8 m).toArray is).run Tryz.prog w = .ok (is.all fun i => l.getD i 0 == m.getD i 0) w
  | [], _ => by simp [Op.eqItems]
  | i :: is, h => by
    have hi := h i (by simp)
    have hp : ∀ l : List Nat, i < l.length → (part 5 (nums .u8 l).toArray (i * 1)).run Tryz.prog w = .ok (.int .u8 ((l.getD i 0 : Nat) : Int)) w := fun l hi => by
      have hv : (nums .u8 l).toArray[i]? = some (.int .u8 ((l.getD i 0 : Nat) : Int)) := by rw [List.getElem?_toArray, nums_get .u8 l i hi]
      simp only [part, Sem.run_bind, Tryz.isAgg5, Result.andThen_ok, Bool.false_eq_true, if_false, Nat.mul_one, hv, Sem.run_pure]
    have hb : (((l.getD i 0 : Nat) : Int) == ((m.getD i 0 : Nat) : Int)) = (l.getD i 0 == m.getD i 0) := by
      by_cases e : l.getD i 0 = m.getD i 0
      · rw [e]; simp
      · rw [beq_eq_false_iff_ne.2 e, beq_eq_false_iff_ne.2 (by omega)]
    simp only [Op.eqItems, Sem.run_bind, hp l hi, hp m (by omega), Result.andThen_ok, run_equalIn_int w d 5 .u8 .u8 _ _ Tryz.underlying5, hb, List.all_cons]
    cases l.getD i 0 == m.getD i 0
    · simp
    · simp only [Bool.not_true, Bool.false_eq_true, if_false, Bool.true_and]
      exact items_eq d l m hlm w is fun j hj => h j (by simp [hj])
theorem all_eq {l m : List Nat} (hlm : l.length = m.length) : ((List.range l.length).all fun i => l.getD i 0 == m.getD i 0) = decide (l = m) := by
  by_cases h : l = m
  · subst h; simp
  · rw [decide_eq_false h, Bool.eq_false_iff]
    intro hall
    apply h
    refine List.ext_getElem hlm fun i h1 h2 => ?_
    have := List.all_eq_true.1 hall i (List.mem_range.2 h1)
    simpa [List.getD_eq_getElem?_getD, List.getElem?_eq_getElem, h1, h2] using this
set_option maxRecDepth 8000 in
theorem eq_hash {l m : List Nat} (hl : H32 l) (hm : H32 m) (w : World) : (Op.equalIn 10000 23 (.agg (nums .u8 l).toArray) (.agg (nums .u8 m).toArray)).run Tryz.prog w = .ok (decide (l = m)) w := by
  obtain ⟨i, hi⟩ : ∃ i, Tryz.prog.info? 5 = some i := by
    cases h : Tryz.prog.info? 5 with
    | none => have := s5; rw [h] at this; cases this
    | some i => exact ⟨i, rfl⟩
  rw [run_equalIn_array w 9999 _ _ Tryz.underlying23 hi, cells5]
  have := items_eq 9998 l m (by rw [hl.1, hm.1]) w (List.range 32) (fun i hi => by rw [hl.1]; exact List.mem_range.1 hi)
  rw [this]
  congr 1
  rw [← all_eq (by rw [hl.1, hm.1]), hl.1]
theorem sE {e : En} (h : e.h.length = 32) (na : Option Addr) (nc : Nat) (ka : Option Addr) (kc : Nat) : (Tryz.prog.info? 45).map (·.size) = some (eC e na nc ka kc).length := by rw [eC_len h]; kernel_rfl
theorem sB {b : Bk} (h : b.pv.length = 32) (a : Option Addr) (c : Nat) : (Tryz.prog.info? 26).map (·.size) = some (bC b a c).length := by rw [bC_len h]; kernel_rfl
theorem sH {l : List Nat} (h : l.length = 32) : (Tryz.prog.info? 23).map (·.size) = some (nums .u8 l).length := by rw [nums_length, h]; exact s25
end Go.Proofs.YtlefdnjokppibaaGreatDoor.Sh
namespace Go.Proofs.YtlefdnjokppibaaGreatDoor.Sh
open Go.RowKit Mt
theorem rot_bits (x n : Nat) (hx : x < 4294967296) : bits .or .u32 ((x : Int) / 2 ^ n) ((x : Int) * 2 ^ (32 - n) % 4294967296) = ((rotr x n : Nat) : Int) := by
  have := u32_or_nat (x / 2 ^ n) (x * 2 ^ (32 - n) % 4294967296) (Nat.lt_of_le_of_lt (Nat.div_le_self _ _) hx) (Nat.mod_lt _ (by decide))
  unfold rotr
  rw [← this]
  simp
set_option maxRecDepth 8000 in
set_option maxHeartbeats 400000 in
theorem turn_any (x n : Nat) (hx : x < 4294967296) (hn : n ≤ 32) (w : World) :
    Calls Tryz.prog 106 #[.int .u32 x, .int .i64 n] w fun e w' => e = .returned (.int .u32 ((rotr x n : Nat) : Int)) ∧ ∃ q, w' = w.drewN q := by
  have HR : Hid (bits .or .u32 ((x : Int) / 2 ^ n) ((x : Int) * 2 ^ (32 - n) % 4294967296) = ((rotr x n : Nat) : Int)) := rot_bits x n hx
  have e1 : ((32 : Int) - (n : Int)).toNat = 32 - n := by omega
  go_enter Tryz.func106, Tryz.ntmps106
  go_wp2
  go_quiet (fail)
  go_wp2
  go_ret
  exact ⟨ret_int HR.out, _, rfl⟩
set_option maxRecDepth 8000 in
set_option maxHeartbeats 400000 in
theorem r_any (x n : Nat) (hx : x < 4294967296) (hn : n ≤ 32) (w : World) :
    Calls Tryz.prog 88 #[.int .u32 x, .int .u64 n] w fun e w' => e = .returned (.int .u32 ((rotr x n : Nat) : Int)) ∧ w' = w := by
  have HR : Hid (bits .or .u32 ((x : Int) / 2 ^ n) ((x : Int) * 2 ^ (32 - n) % 4294967296) = ((rotr x n : Nat) : Int)) := rot_bits x n hx
  have e1 : ((32 : Int) - (n : Int)).toNat = 32 - n := by omega
  go_enter Tryz.func88, Tryz.ntmps88
  go_wp2
  go_ret
  exact ⟨ret_int HR.out, rfl⟩
theorem turn_lit (x n : Nat) (hx : x < 4294967296) (hn : n ≤ 32) (w : World) :
    Calls Tryz.prog 106 #[.int .u32 (x : Int), .int .i64 (@OfNat.ofNat Int n instOfNat)] w fun e w' => e = .returned (.int .u32 ((rotr x n : Nat) : Int)) ∧ ∃ q, w' = w.drewN q := turn_any x n hx hn w
theorem r_lit (x n : Nat) (hx : x < 4294967296) (hn : n ≤ 32) (w : World) :
    Calls Tryz.prog 88 #[.int .u32 (x : Int), .int .u64 (@OfNat.ofNat Int n instOfNat)] w fun e w' => e = .returned (.int .u32 ((rotr x n : Nat) : Int)) ∧ w' = w := r_any x n hx hn w
end Go.Proofs.YtlefdnjokppibaaGreatDoor.Sh
namespace Go.Proofs.YtlefdnjokppibaaGreatDoor.Sh
open Go.RowKit Mt
/-- The words behind so many bytes of the block. -/
def ws (b : Nat → Nat) : Nat → List Nat
  | 0 => List.replicate 64 0
  | i + 1 => (ws b i).set (i / 4) ((ws b i).getD (i / 4) 0 * 256 % 4294967296 ||| b i)
theorem ws_len (b : Nat → Nat) : ∀ i, (ws b i).length = 64
  | 0 => by simp [ws]
  | i + 1 => by rw [ws, List.length_set, ws_len b i]
def pw (b : Nat → Nat) (j : Nat) : Nat → Nat
  | 0 => 0
  | r + 1 => pw b j r * 256 + b (4 * j + r)
theorem pw_lt (b : Nat → Nat) (hb : ∀ i, b i < 256) (j : Nat) : ∀ r, pw b j r < 256 ^ r
  | 0 => by simp [pw]
  | r + 1 => by
    have := pw_lt b hb j r
    have := hb (4 * j + r)
    rw [pw, Nat.pow_succ]; omega
theorem or_add (x y : Nat) (hy : y < 256) : x * 256 ||| y = x * 256 + y := by
  have := Nat.shiftLeft_add_eq_or_of_lt (i := 8) (b := y) hy x
  rw [Nat.shiftLeft_eq] at this
  exact this.symm
theorem or_bits (v x : Nat) (hx : x < 256) : bits .or .u32 ((v : Int) * 256 % 4294967296) (x : Int) = ((v * 256 % 4294967296 ||| x : Nat) : Int) := by
  rw [← u32_or_nat _ _ (Nat.mod_lt _ (by decide)) (by omega)]; congr 1 <;> omega
theorem ws_eq (b : Nat → Nat) (hb : ∀ i, b i < 256) : ∀ i, i ≤ 64 → ws b i = (List.range 64).map fun j => pw b j (min 4 (i - 4 * j))
  | 0, _ => by
    simp only [Nat.zero_sub, Nat.min_zero, pw, ws]
    decide
  | i + 1, hi => by
    rw [ws, ws_eq b hb i (by omega)]
    apply List.ext_getElem
    · simp
    · intro k h1 h2
      have hk : k < 64 := by simpa using h2
      rw [List.getElem_set]
      have hi4 : i / 4 < 64 := by omega
      split
      · rename_i e
        subst e
        simp only [List.getElem_map, List.getElem_range, List.getD_eq_getElem?_getD, List.getElem?_map, List.getElem?_range hi4, Option.map_some, Option.getD_some]
        rw [show min 4 (i - 4 * (i / 4)) = i % 4 by omega, show min 4 (i + 1 - 4 * (i / 4)) = i % 4 + 1 by omega, pw, show 4 * (i / 4) + i % 4 = i by omega]
        have h3 := pw_lt b hb (i / 4) (i % 4)
        have h4 : (256 : Nat) ^ (i % 4) ≤ 256 ^ 3 := Nat.pow_le_pow_right (by decide) (by omega)
        rw [Nat.mod_eq_of_lt (by omega), or_add _ _ (hb i)]
      · rename_i e
        simp only [List.getElem_map, List.getElem_range]
        by_cases hlt : k < i / 4
        · rw [show min 4 (i - 4 * k) = 4 by omega, show min 4 (i + 1 - 4 * k) = 4 by omega]
        · rw [show min 4 (i - 4 * k) = 0 by omega, show min 4 (i + 1 - 4 * k) = 0 by omega]
theorem ws_end (b : Nat → Nat) (hb : ∀ i, b i < 256) : ws b 64 = sched b 0 ++ List.replicate 48 0 := by
  rw [ws_eq b hb 64 (Nat.le_refl _)]
  apply List.ext_getElem
  · simp [sched]
  · intro k h1 h2
    have hk : k < 64 := by simpa using h1
    simp only [List.getElem_map, List.getElem_range]
    rw [List.getElem_append]
    split
    · rename_i hl
      have hl' : k < 16 := by simpa [sched] using hl
      simp only [sched, List.getElem_map, List.getElem_range]
      rw [show min 4 (64 - 4 * k) = 4 by omega]
      simp only [pw, word, Nat.add_zero, Nat.zero_mul, Nat.zero_add]
    · rename_i hl
      have hl' : ¬ k < 16 := by simpa [sched] using hl
      rw [show min 4 (64 - 4 * k) = 0 by omega, List.getElem_replicate]
      rfl
theorem ws_lt (b : Nat → Nat) (hb : ∀ i, b i < 256) (i : Nat) (hi : i ≤ 64) (j : Nat) : (ws b i).getD j 0 < 4294967296 := by
  refine getD_of_mem (p := fun x => x < 4294967296) ?_ (by decide) j
  rw [ws_eq b hb i hi]
  intro x hx
  obtain ⟨k, _, rfl⟩ := List.mem_map.1 hx
  have h3 := pw_lt b hb k (min 4 (i - 4 * k))
  have h4 : (256 : Nat) ^ (min 4 (i - 4 * k)) ≤ 256 ^ 4 := Nat.pow_le_pow_right (by decide) (by omega)
  omega
theorem below_drewN {B : Nat} {a w : World} (h : Below B a w) (q : Nat) : Below B a (w.drewN q) := ⟨h.os, h.tape, h.output, h.size, h.block⟩
theorem set_snoc (l : List Nat) (n x : Nat) : (l ++ List.replicate (n + 1) 0).set l.length x = (l ++ [x]) ++ List.replicate n 0 := by
  rw [List.set_append_right _ _ (Nat.le_refl _), Nat.sub_self, List.replicate_succ]; simp
theorem getD_left (l m : List Nat) (i : Nat) (h : i < l.length) : (l ++ m).getD i 0 = l.getD i 0 := by
  rw [List.getD_eq_getElem?_getD, List.getD_eq_getElem?_getD, List.getElem?_append_left h]

set_option maxRecDepth 8000 in
set_option maxHeartbeats 1000000 in
theorem spread_any (bl : List Nat) (b : Nat → Nat) (hl : bl.length = 64) (hB : Hid (∀ i, bl.getD i 0 = b i)) (hb' : Hid (∀ i, b i < 256)) (N : Nat) (hN : Hid (N = 48)) (w : World) :
    Calls Tryz.prog 105 #[.agg (nums .u8 bl).toArray] w fun e w' => e = .returned (.agg (nums .u32 (sched b N)).toArray) ∧ Below w.heap.size w w' := by
  go_enter Tryz.func105, Tryz.ntmps105
  go_wp2_with (refine al_box rfl 100 (.tmp 0) rfl (nums .u8 bl) rfl ?_)
  intro g1 w1 l1 B1 G1
  go_wp2_with (refine al_zero rfl 107 rfl _ z50 ?_)
  intro g2 w2 l2 B2 G2
  have B1 := B1.kept G2 (by simp)
  go_wp2_with (refine al_zero rfl 107 rfl _ z50 ?_)
  intro g3 w3 l3 B3 G3
  have n23 : g2 ≠ g3 := by have := B2.lt; omega
  have B1 := B1.kept G3 (by simp)
  have B2 := B2.kept G3 (by simp)
  go_wp2_with (refine ld_all rfl 100 (.tmp 1) rfl g1 100 _ 64 5 rfl B1 Tryz.underlying100 (by rw [nums_length, hl]; exact s42) ?_)
  have Z0 := ((((Below.refl w.heap.size w).grown G1 (Nat.le_refl _) (by simp)).grown G2 G1.size (by simp)).grown G3 (by have := G1.size; have := G2.size; omega) (by simp))
  have hg3 : w.heap.size ≤ g3 := by have := G1.size; have := G2.size; omega
  have hg2 : w.heap.size ≤ g2 := by have := G1.size; omega
  clear B1 G1 G2 G3
  go_wp2
  go_loopw [12] (fun i wr => ∃ k : Nat, k ≤ 64 ∧ i = .int .i64 k ∧ Blk wr g3 107 (nums .u32 (ws b k)) ∧ Blk wr g2 107 (nums .u32 (List.replicate 64 0)) ∧ Below w.heap.size w wr) (fun i _ => 64 - (intOf i).toNat)
  case atStart => exact ⟨0, by omega, rfl, B3, B2, Z0⟩
  case round =>
    obtain ⟨k, hk, rfl, C3, C2, Z⟩ := hrel
    by_cases hlt : k < 64
    · have hc := C3.num (k / 4) (by rw [ws_len]; omega)
      have hf := C3.frozen (k / 4)
      have hx := hb'.out k
      have hxe := idx_run (P := Tryz.prog) Tryz.underlying100 Tryz.sizeOf5 Tryz.isAgg5 .u8 bl k hlt (by omega) wr
      rw [hB.out k] at hxe
      have e4 : ((k : Int) / 4).toNat = k / 4 := by omega
      have hv := ws_lt b hb'.out k hk (k / 4)
      have HS : Hid (ws b (k + 1) = (ws b k).set (k / 4) ((ws b k).getD (k / 4) 0 * 256 % 4294967296 ||| b k)) := rfl
      generalize b k = x at hx hxe HS
      generalize (ws b k).getD (k / 4) 0 = v at hc hv HS
      obtain ⟨d, hd, HD⟩ : ∃ d : Nat, bits .or .u32 ((v : Int) * 256 % 4294967296) (x : Int) = (d : Int) ∧ Hid (d = (v * 256 % 4294967296 ||| x)) := ⟨_, or_bits v x hx, rfl⟩
      go_wp2
      go_roundw
      case rel =>
        refine ⟨k + 1, by omega, by go_num, ?_, C2.setOther (fun e => n23 e.symm) _, Z.setCell hg3 _⟩
        rw [HS.out, ← HD.out]
        exact C3.setNum _ _
      case measure => simp [intOf]; omega
    · obtain rfl : k = 64 := by omega
      rw [ws_end b hb'.out] at C3
      go_wp2
      go_loopw [6] (fun i wr => ∃ k : Nat, k ≤ 48 ∧ i = .int .i64 ((k + 16 : Nat) : Int) ∧ Blk wr g3 107 (nums .u32 (sched b k ++ List.replicate (48 - k) 0)) ∧ Blk wr g2 107 (nums .u32 (List.replicate 64 0)) ∧ Below w.heap.size w wr) (fun i _ => 64 - (intOf i).toNat)
      case atStart => exact ⟨0, by omega, rfl, C3, C2, Z⟩
      case round =>
        clear C2 C3 Z
        obtain ⟨k, hk, rfl, C3, C2, Z⟩ := hrel
        have hsl := sched_len b k
        by_cases hlt : k < 48
        · have c15 := C3.num (k + 1) (by simp [hsl]; omega)
          have c2 := C3.num (k + 14) (by simp [hsl]; omega)
          have c16 := C3.num k (by simp [hsl]; omega)
          have c7 := C3.num (k + 9) (by simp [hsl]; omega)
          rw [getD_left _ _ _ (by omega)] at c15 c2 c16 c7
          have cf := C3.frozen (k + 16)
          have cn := C3.num (k + 16) (by simp [hsl]; omega)
          generalize (sched b k ++ List.replicate (48 - k) 0).getD (k + 16) 0 = old at cn
          have HS : Hid (sched b (k + 1) = sched b k ++ [((sched b k).getD k 0 + ss0 ((sched b k).getD (k + 1) 0) + (sched b k).getD (k + 9) 0 + ss1 ((sched b k).getD (k + 14) 0)) % 4294967296]) := by
            show _ = _
            rw [sched, next, hsl]; rfl
          have h15 := sched_get_lt b hb'.out k (k + 1)
          have h2 := sched_get_lt b hb'.out k (k + 14)
          have h16 := sched_get_lt b hb'.out k k
          have h7 := sched_get_lt b hb'.out k (k + 9)
          have Hsl : Hid ((sched b k).length = k + 16) := hsl
          clear hsl
          generalize (sched b k).getD (k + 1) 0 = x at c15 h15 HS
          generalize (sched b k).getD (k + 14) 0 = y at c2 h2 HS
          generalize (sched b k).getD k 0 = u at c16 h16 HS
          generalize (sched b k).getD (k + 9) 0 = v at c7 h7 HS
          have i15 : (((k : Int) + 16 - 15)).toNat = k + 1 := by omega
          have i2 : (((k : Int) + 16 - 2)).toNat = k + 14 := by omega
          have i16 : (((k : Int) + 16 - 16)).toNat = k := by omega
          have i7 : (((k : Int) + 16 - 7)).toNat = k + 9 := by omega
          obtain ⟨p1, hp1, hp1l, P1⟩ : ∃ d : Nat, bits .xor .u32 ((rotr x 7 : Nat) : Int) ((rotr x 18 : Nat) : Int) = (d : Int) ∧ d < 4294967296 ∧ Hid (d = rotr x 7 ^^^ rotr x 18) := ⟨_, u32_xor_nat _ _ (rotr_lt _ _ h15) (rotr_lt _ _ h15), xor_lt (rotr_lt _ _ h15) (rotr_lt _ _ h15), rfl⟩
          obtain ⟨p2, hp2, hp2l, P2⟩ : ∃ d : Nat, bits .xor .u32 (p1 : Int) ((x : Int) / 8) = (d : Int) ∧ d < 4294967296 ∧ Hid (d = p1 ^^^ x / 8) := ⟨_, u32_xor_nat p1 (x / 8) hp1l (by omega), xor_lt hp1l (by omega), rfl⟩
          obtain ⟨q1, hq1, hq1l, Q1⟩ : ∃ d : Nat, bits .xor .u32 ((rotr y 17 : Nat) : Int) ((rotr y 19 : Nat) : Int) = (d : Int) ∧ d < 4294967296 ∧ Hid (d = rotr y 17 ^^^ rotr y 19) := ⟨_, u32_xor_nat _ _ (rotr_lt _ _ h2) (rotr_lt _ _ h2), xor_lt (rotr_lt _ _ h2) (rotr_lt _ _ h2), rfl⟩
          obtain ⟨q2, hq2, hq2l, Q2⟩ : ∃ d : Nat, bits .xor .u32 (q1 : Int) ((y : Int) / 1024) = (d : Int) ∧ d < 4294967296 ∧ Hid (d = q1 ^^^ y / 1024) := ⟨_, u32_xor_nat q1 (y / 1024) hq1l (by omega), xor_lt hq1l (by omega), rfl⟩
          go_wp2
          go_quiet (fail)
          go_wp2_with fail
          refine (turn_any x 7 h15 (by omega) _).mono ?_; rintro e w' ⟨rfl, m1, rfl⟩
          go_wp2_with fail
          refine (turn_any x 18 h15 (by omega) _).mono ?_; rintro e w' ⟨rfl, m2, rfl⟩
          go_wp2_with fail
          refine (turn_any y 17 h2 (by omega) _).mono ?_; rintro e w' ⟨rfl, m3, rfl⟩
          go_wp2_with fail
          refine (turn_any y 19 h2 (by omega) _).mono ?_; rintro e w' ⟨rfl, m4, rfl⟩
          go_wp2_with fail
          go_region
          all_goals go_wp2
          refine ⟨?_, ?measure⟩
          iterate 48 apply Exists.intro
          refine ⟨?rel, rfl⟩
          case rel =>
            refine ⟨k + 1, by omega, by go_num, ?_, ?_, ?_⟩
            · have e1 : ((u : Int) + p2 + v + q2) % 4294967296 = (((u + p2 + v + q2) % 4294967296 : Nat) : Int) := by omega
              have e2 : (sched b k ++ List.replicate (48 - k) 0).set (k + 16) ((u + p2 + v + q2) % 4294967296) = sched b (k + 1) ++ List.replicate (48 - (k + 1)) 0 := by
                rw [show 48 - k = (48 - (k + 1)) + 1 by omega, ← Hsl.out, set_snoc, HS.out, P2.out, P1.out, Q2.out, Q1.out]; rfl
              rw [e1, ← e2]
              exact (C3.drewN _).setNum _ _
            · exact (C2.drewN _).setOther (fun e => n23 e.symm) _
            · exact (below_drewN Z _).setCell hg3 _
          case measure => simp [intOf]; omega
        · obtain rfl : k = N := by have := hN.out; omega
          rw [show 48 - k = 0 by omega, List.replicate_zero, List.append_nil] at C3
          have hsl : (sched b k).length = 64 := by rw [hsl, hN.out]
          have n64 : (nums .u32 (sched b k)).length = (nums .u32 (List.replicate 64 0)).length := by rw [nums_length, nums_length, hsl, List.length_replicate]
          have i64 : (Tryz.prog.info? 107).map (·.size) = some (nums .u32 (sched b k)).length := by rw [nums_length, hsl]; exact s50
          have N64 : Hid _ := n64
          have I64 : Hid _ := i64
          clear n64 i64
          go_wp2_with (first | (refine ld_all rfl 107 (.tmp 3) rfl g3 107 _ 64 98 rfl C3 Tryz.underlying107 I64.out ?_) | (refine st_all rfl 107 (.tmp 2) (.tmp 71) rfl g2 107 _ (nums .u32 (sched b k)) rfl rfl C2 N64.out I64.out (nums_one _ _) ?_))
          intro w4 D2 G4
          go_wp2
          (try simp only [Exit.inBlock, Exit.then])
          refine bodyPost_ret (res_row rfl _ g2 107 _ _ rfl D2 Tryz.underlying107 rfl I64.out) rfl ⟨rfl, Z.grown G4 Z.size (fun r e => by obtain rfl := Option.some.inj e; exact hg2)⟩
end Go.Proofs.YtlefdnjokppibaaGreatDoor.Sh
