/-
  Plain mathematics, of no program: SHA-256 over lists of numbers. · Arrays in memory: a block and its cells, what stores leave of it, and the operations on whole arrays as laws that leave the world under a name. · The contracts of digest.turn and of the document's own r: a word turned to the right. · The two tables of the program as array literals: the rounds' numbers, the first state; and the law on an array literal. · Three operations more as laws that leave the world under a name: a copy into a row that is known whole; a number stored into one cell of it; a slice cut from a place on. · The contract of digest.ending: what stands behind so many bytes.
-/
import Derived.Laws.BitsAllLaws
import Derived.Test.YthmnjamnaibcgaaOsame
import Derived.Deep.MidRow
import Derived.Maps.Range
import Derived.Maps.AppendAt
import Derived.Laws.CopyOwn
namespace Go.Proofs.Ythmnjamnaibcgaa.Sh.Mt

/-! ### words -/
def rotr (x n : Nat) : Nat := x / 2 ^ n ||| x * 2 ^ (32 - n) % 4294967296
def bs1 (e : Nat) : Nat := rotr e 6 ^^^ rotr e 11 ^^^ rotr e 25
def bs0 (a : Nat) : Nat := rotr a 2 ^^^ rotr a 13 ^^^ rotr a 22
def ss0 (x : Nat) : Nat := rotr x 7 ^^^ rotr x 18 ^^^ x / 8
def ss1 (y : Nat) : Nat := rotr y 17 ^^^ rotr y 19 ^^^ y / 1024
def cho (e f g : Nat) : Nat := (e &&& f) ^^^ ((4294967295 - e) &&& g)
def maj (a b c : Nat) : Nat := (a &&& b) ^^^ (a &&& c) ^^^ (b &&& c)
def K : List Nat := [1116352408, 1899447441, 3049323471, 3921009573, 961987163, 1508970993, 2453635748, 2870763221, 3624381080, 310598401, 607225278, 1426881987, 1925078388, 2162078206, 2614888103, 3248222580, 3835390401, 4022224774, 264347078, 604807628, 770255983, 1249150122, 1555081692, 1996064986, 2554220882, 2821834349, 2952996808, 3210313671, 3336571891, 3584528711, 113926993, 338241895, 666307205, 773529912, 1294757372, 1396182291, 1695183700, 1986661051, 2177026350, 2456956037, 2730485921, 2820302411, 3259730800, 3345764771, 3516065817, 3600352804, 4094571909, 275423344, 430227734, 506948616, 659060556, 883997877, 958139571, 1322822218, 1537002063, 1747873779, 1955562222, 2024104815, 2227730452, 2361852424, 2428436474, 2756734187, 3204031479, 3329325298]

/-! ### a state, a round -/
structure St where
  a : Nat
  b : Nat
  c : Nat
  d : Nat
  e : Nat
  f : Nat
  g : Nat
  h : Nat
def St.l (s : St) : List Nat := [s.a, s.b, s.c, s.d, s.e, s.f, s.g, s.h]
def init : St := ⟨1779033703, 3144134277, 1013904242, 2773480762, 1359893119, 2600822924, 528734635, 1541459225⟩
def tee (s : St) (k w : Nat) : Nat := (s.h + bs1 s.e + cho s.e s.f s.g + k + w) % 4294967296
def you (s : St) : Nat := (bs0 s.a + maj s.a s.b s.c) % 4294967296
def step (s : St) (k w : Nat) : St := ⟨(tee s k w + you s) % 4294967296, s.a, s.b, s.c, (s.d + tee s k w) % 4294967296, s.e, s.f, s.g⟩
def run (s : St) (W : List Nat) : Nat → St
  | 0 => s
  | i + 1 => step (run s W i) (K.getD i 0) (W.getD i 0)
def add32 (x y : Nat) : Nat := (x + y) % 4294967296
def plus (s v : St) : St := ⟨add32 s.a v.a, add32 s.b v.b, add32 s.c v.c, add32 s.d v.d, add32 s.e v.e, add32 s.f v.f, add32 s.g v.g, add32 s.h v.h⟩

/-! ### the words of a block -/
def word (b : Nat → Nat) (i : Nat) : Nat := ((b (4 * i) * 256 + b (4 * i + 1)) * 256 + b (4 * i + 2)) * 256 + b (4 * i + 3)
def next (l : List Nat) : Nat := (l.getD (l.length - 16) 0 + ss0 (l.getD (l.length - 15) 0) + l.getD (l.length - 7) 0 + ss1 (l.getD (l.length - 2) 0)) % 4294967296
def sched (b : Nat → Nat) : Nat → List Nat
  | 0 => (List.range 16).map (word b)
  | n + 1 => sched b n ++ [next (sched b n)]
def comp (s : St) (b : Nat → Nat) : St := plus s (run s (sched b 48) 64)
def part (m : List Nat) (j i : Nat) : Nat := m.getD (64 * j + i) 0
def blk (m : List Nat) : Nat → St
  | 0 => init
  | j + 1 => comp (blk m j) (part m j)

/-! ### what stands behind, the digest -/
def be8 (v : Nat) : List Nat := (List.range 8).map fun i => v / 2 ^ (56 - 8 * i) % 256
def pad (n : Nat) : List Nat := 128 :: (List.replicate ((119 - n % 64) % 64) 0 ++ be8 (8 * n))
def out (s : St) (i : Nat) : Nat := s.l.getD (i / 4) 0 / 2 ^ (24 - 8 * (i % 4)) % 256
def D (l : List Nat) : List Nat := (List.range 32).map (out (blk (l ++ pad l.length) ((l ++ pad l.length).length / 64)))

/-! ### bounds -/
theorem rotr_lt (x n : Nat) (hx : x < 4294967296) : rotr x n < 4294967296 := by
  unfold rotr
  exact Nat.or_lt_two_pow (n := 32) (Nat.lt_of_le_of_lt (Nat.div_le_self _ _) hx) (Nat.mod_lt _ (by decide))
theorem xor_lt {x y : Nat} (hx : x < 4294967296) (hy : y < 4294967296) : x ^^^ y < 4294967296 := Nat.xor_lt_two_pow (n := 32) hx hy
theorem and_lt {x y : Nat} (hx : x < 4294967296) : x &&& y < 4294967296 := Nat.lt_of_le_of_lt Nat.and_le_left hx
theorem bs1_lt {x : Nat} (hx : x < 4294967296) : bs1 x < 4294967296 := xor_lt (xor_lt (rotr_lt _ _ hx) (rotr_lt _ _ hx)) (rotr_lt _ _ hx)
theorem bs0_lt {x : Nat} (hx : x < 4294967296) : bs0 x < 4294967296 := xor_lt (xor_lt (rotr_lt _ _ hx) (rotr_lt _ _ hx)) (rotr_lt _ _ hx)
theorem ss0_lt {x : Nat} (hx : x < 4294967296) : ss0 x < 4294967296 := xor_lt (xor_lt (rotr_lt _ _ hx) (rotr_lt _ _ hx)) (by omega)
theorem ss1_lt {x : Nat} (hx : x < 4294967296) : ss1 x < 4294967296 := xor_lt (xor_lt (rotr_lt _ _ hx) (rotr_lt _ _ hx)) (by omega)
def St.ok (s : St) : Prop := s.a < 4294967296 ∧ s.b < 4294967296 ∧ s.c < 4294967296 ∧ s.d < 4294967296 ∧ s.e < 4294967296 ∧ s.f < 4294967296 ∧ s.g < 4294967296 ∧ s.h < 4294967296
theorem init_ok : init.ok := by unfold St.ok init; decide
theorem step_ok {s : St} (h : s.ok) (k w : Nat) : (step s k w).ok := by
  obtain ⟨h1, h2, h3, h4, h5, h6, h7, h8⟩ := h
  exact ⟨Nat.mod_lt _ (by decide), h1, h2, h3, Nat.mod_lt _ (by decide), h5, h6, h7⟩
theorem run_ok {s : St} (h : s.ok) (W : List Nat) : ∀ i, (run s W i).ok
  | 0 => h
  | i + 1 => step_ok (run_ok h W i) _ _
theorem add32_lt (x y : Nat) : add32 x y < 4294967296 := Nat.mod_lt _ (by decide)
theorem plus_ok (s v : St) : (plus s v).ok := ⟨add32_lt _ _, add32_lt _ _, add32_lt _ _, add32_lt _ _, add32_lt _ _, add32_lt _ _, add32_lt _ _, add32_lt _ _⟩
theorem comp_ok (s : St) (b : Nat → Nat) : (comp s b).ok := plus_ok _ _
theorem blk_ok (m : List Nat) : ∀ j, (blk m j).ok
  | 0 => init_ok
  | _ + 1 => comp_ok _ _
theorem l_lt {s : St} (h : s.ok) (i : Nat) : s.l.getD i 0 < 4294967296 := by
  obtain ⟨h1, h2, h3, h4, h5, h6, h7, h8⟩ := h
  match i with
  | 0 => exact h1
  | 1 => exact h2
  | 2 => exact h3
  | 3 => exact h4
  | 4 => exact h5
  | 5 => exact h6
  | 6 => exact h7
  | 7 => exact h8
  | n + 8 => show (0 : Nat) < _; decide
theorem l_len (s : St) : s.l.length = 8 := rfl
theorem word_lt (b : Nat → Nat) (hb : ∀ i, b i < 256) (i : Nat) : word b i < 4294967296 := by
  have := hb (4 * i); have := hb (4 * i + 1); have := hb (4 * i + 2); have := hb (4 * i + 3)
  unfold word; omega
theorem sched_len (b : Nat → Nat) : ∀ n, (sched b n).length = n + 16
  | 0 => by simp [sched]
  | n + 1 => by rw [sched, List.length_append, sched_len b n, List.length_singleton]
theorem sched_lt (b : Nat → Nat) (hb : ∀ i, b i < 256) : ∀ n x, x ∈ sched b n → x < 4294967296
  | 0, x, h => by obtain ⟨i, _, rfl⟩ := List.mem_map.1 h; exact word_lt b hb i
  | n + 1, x, h => by
    rw [sched, List.mem_append] at h
    rcases h with h | h
    · exact sched_lt b hb n x h
    · obtain rfl := List.mem_singleton.1 h; exact Nat.mod_lt _ (by decide)
theorem getD_of_mem {l : List Nat} {p : Nat → Prop} (h : ∀ x ∈ l, p x) (h0 : p 0) (i : Nat) : p (l.getD i 0) := by
  rw [List.getD_eq_getElem?_getD]
  cases e : l[i]? with
  | none => exact h0
  | some x => exact h x (List.mem_of_getElem? e)
theorem sched_get_lt (b : Nat → Nat) (hb : ∀ i, b i < 256) (n i : Nat) : (sched b n).getD i 0 < 4294967296 := getD_of_mem (p := fun x => x < 4294967296) (sched_lt b hb n) (by decide) i
theorem K_lt (i : Nat) : K.getD i 0 < 4294967296 := getD_of_mem (p := fun x => x < 4294967296) (by decide) (by decide) i
theorem K_len : K.length = 64 := by decide

/-! ### what hangs on what -/
theorem word_congr {b b' : Nat → Nat} (h : ∀ i, i < 64 → b i = b' i) (i : Nat) (hi : i < 16) : word b i = word b' i := by
  unfold word
  rw [h _ (by omega), h _ (by omega), h _ (by omega), h _ (by omega)]
theorem sched_congr {b b' : Nat → Nat} (h : ∀ i, i < 64 → b i = b' i) : ∀ n, sched b n = sched b' n
  | 0 => by unfold sched; exact List.map_congr_left fun i hi => word_congr h i (List.mem_range.1 hi)
  | n + 1 => by rw [sched, sched, sched_congr h n]
theorem comp_congr (s : St) {b b' : Nat → Nat} (h : ∀ i, i < 64 → b i = b' i) : comp s b = comp s b' := by
  unfold comp; rw [sched_congr h]
theorem blk_congr {m m' : List Nat} : ∀ j, (∀ i, i < 64 * j → m.getD i 0 = m'.getD i 0) → blk m j = blk m' j
  | 0, _ => rfl
  | j + 1, h => by
    rw [blk, blk, blk_congr j (fun i hi => h i (by omega))]
    exact comp_congr _ fun i hi => h _ (by omega)
theorem pad_len (n : Nat) : (n + (pad n).length) % 64 = 0 := by
  simp [pad, be8]; omega
theorem pad_len_le (n : Nat) : (pad n).length ≤ 72 := by
  simp [pad, be8]; omega
theorem out_lt (s : St) (i : Nat) : out s i < 256 := Nat.mod_lt _ (by decide)
theorem D_len (l : List Nat) : (D l).length = 32 := by simp [D]
theorem D_oct (l : List Nat) : ∀ x ∈ D l, x < 256 := by
  intro x hx
  obtain ⟨i, _, rfl⟩ := List.mem_map.1 hx
  exact out_lt _ _
#print axioms D_oct
end Go.Proofs.Ythmnjamnaibcgaa.Sh.Mt
namespace Go.Proofs.Ythmnjamnaibcgaa.Sh
open Go.RowKit Mt
theorem cell_lt {w : World} {b o : Nat} {v : Value} (h : w.cell? ⟨b, o, none⟩ = some v) : b < w.heap.size := by
  apply Nat.lt_of_not_le; intro hle
  have : w.heap[b]? = none := Array.getElem?_eq_none hle
  simp [World.cell?, this] at h
theorem ret_int {k : IntKind} {a b : Int} (h : a = b) : Ending.returned (.int k a) = .returned (.int k b) := by rw [h]

def nums (k : IntKind) (l : List Nat) : List Value := l.map fun n : Nat => Value.int k (n : Int)
theorem nums_length (k : IntKind) (l : List Nat) : (nums k l).length = l.length := by simp [nums]
theorem nums_get (k : IntKind) (l : List Nat) (i : Nat) (h : i < l.length) : (nums k l)[i]? = some (.int k ((l.getD i 0 : Nat) : Int)) := by
  simp [nums, List.getD_eq_getElem?_getD, List.getElem?_eq_getElem h]
theorem nums_one (k : IntKind) (l : List Nat) : ∀ u ∈ nums k l, u.oneCell' = true := by
  intro u hu
  obtain ⟨_, _, rfl⟩ := List.mem_map.1 hu
  rfl
theorem nums_set (k : IntKind) (l : List Nat) (i x : Nat) : (nums k l).set i (.int k (x : Int)) = nums k (l.set i x) := by
  simp [nums, List.map_set]
theorem nums_append (k : IntKind) (l m : List Nat) : nums k (l ++ m) = nums k l ++ nums k m := by simp [nums]
theorem nums_u8 (l : List Nat) : nums .u8 l = vals l := rfl

/-- A block of cells, whole. -/
def Blk (w : World) (b : Nat) (t : TypeId) (vs : List Value) : Prop := w.heap[b]? = some (.cells vs.toArray t (0, 0))
theorem Blk.lt {w : World} {b : Nat} {t : TypeId} {vs : List Value} (h : Blk w b t vs) : b < w.heap.size := (Array.getElem?_eq_some_iff.1 h).1
theorem Blk.cell {w : World} {b : Nat} {t : TypeId} {vs : List Value} (h : Blk w b t vs) (i : Nat) : w.cell? ⟨b, i, none⟩ = vs[i]? := by
  rw [cell_of_row w b i _ t (0, 0) h]; simp
theorem Blk.num {w : World} {b : Nat} {t : TypeId} {k : IntKind} {l : List Nat} (h : Blk w b t (nums k l)) (i : Nat) (hi : i < l.length) : w.cell? ⟨b, i, none⟩ = some (.int k ((l.getD i 0 : Nat) : Int)) := by
  rw [h.cell, nums_get k l i hi]
theorem Blk.frozen {w : World} {b : Nat} {t : TypeId} {vs : List Value} (h : Blk w b t vs) (i : Nat) : w.frozen? ⟨b, i, none⟩ = false := frozen_of_row w b i _ t h
theorem Blk.range {w : World} {b : Nat} {t : TypeId} {p m q : List Value} (h : Blk w b t (p ++ (m ++ q))) : w.rangeAt b p.length m := fun j v hj => by
  have hl : j < m.length := (List.getElem?_eq_some_iff.1 hj).1
  rw [h.cell, List.getElem?_append_right (by omega), Nat.add_sub_cancel_left, List.getElem?_append_left hl, hj]
theorem Blk.all {w : World} {b : Nat} {t : TypeId} {m : List Value} (h : Blk w b t m) : w.rangeAt b 0 m := fun j v hj => by
  rw [h.cell, Nat.zero_add, hj]
theorem Blk.there {w : World} {b : Nat} {t : TypeId} {vs : List Value} (h : Blk w b t vs) (o n : Nat) (hn : o + n ≤ vs.length) : w.there b o n := fun j hj => by
  refine ⟨?_, h.frozen _⟩
  rw [h.cell, List.getElem?_eq_getElem (by omega)]; rfl
theorem Blk.kept {w w' : World} {b : Nat} {t : TypeId} {vs : List Value} {row : Option Nat} (h : Blk w b t vs) (hg : w.grownBy w' row) (hne : some b ≠ row) : Blk w' b t vs := by
  unfold Blk; rw [hg.block b h.lt hne]; exact h
theorem Blk.below {w w' : World} {b B : Nat} {t : TypeId} {vs : List Value} (h : Blk w b t vs) (hg : Below B w w') (hb : b < B) : Blk w' b t vs := by
  unfold Blk; rw [hg.block b hb]; exact h
theorem Blk.drewN {w : World} {b : Nat} {t : TypeId} {vs : List Value} (h : Blk w b t vs) (q : Nat) : Blk (w.drewN q) b t vs := by
  unfold Blk at *; simpa [World.drewN] using h
theorem Blk.alloc {w : World} {b : Nat} {t : TypeId} {vs : List Value} (h : Blk w b t vs) (o : Obj) : Blk (w.alloc o) b t vs := h.kept (World.grownBy_alloc w o none) (by simp)
theorem blk_new (w : World) (t : TypeId) (vs : List Value) : Blk (w.alloc (.cells vs.toArray t)) w.heap.size t vs := heap_alloc_new w _
theorem grown_setCell (w : World) (a : Addr) (u : Value) : w.grownBy (w.setCell a u) (some a.block) :=
  ⟨rfl, rfl, rfl, by simp [World.setCell], fun k _ hk => Below.heap_setCell _ _ _ _ (fun e => hk (by rw [e]))⟩
theorem Blk.set {w : World} {b : Nat} {t : TypeId} {vs : List Value} (h : Blk w b t vs) (i : Nat) (v : Value) : Blk (w.setCell ⟨b, i, none⟩ v) b t (vs.set i v) := by
  have := heap_setCell_same w b i _ t v h
  unfold Blk; rw [this]; simp
theorem Blk.setNum {w : World} {b : Nat} {t : TypeId} {k : IntKind} {l : List Nat} (h : Blk w b t (nums k l)) (i x : Nat) : Blk (w.setCell ⟨b, i, none⟩ (.int k (x : Int))) b t (nums k (l.set i x)) := by
  rw [← nums_set]; exact h.set i _
theorem Blk.setOther {w : World} {b : Nat} {t : TypeId} {vs : List Value} (h : Blk w b t vs) {a : Addr} (ha : a.block ≠ b) (u : Value) : Blk (w.setCell a u) b t vs :=
  h.kept (grown_setCell w a u) (fun e => ha (Option.some.inj e).symm)
theorem grown_setCells (b : Nat) : ∀ (vs : List Value) (o : Nat) (w : World), w.grownBy (w.setCells b o vs) (some b)
  | [], _, w => World.grownBy.refl w _
  | v :: r, o, w => (grown_setCell w ⟨b, o, none⟩ v).trans (grown_setCells b r (o + 1) _)
theorem Blk.setCells {b : Nat} {t : TypeId} (q : List Value) : ∀ (m' m p : List Value) (w : World), m'.length = m.length → Blk w b t (p ++ (m ++ q)) → Blk (w.setCells b p.length m') b t (p ++ (m' ++ q))
  | [], [], p, w, _, h => h
  | v :: r, u :: m, p, w, hl, h => by
    have h1 := h.set p.length v
    have e : (p ++ (u :: m ++ q)).set p.length v = (p ++ [v]) ++ (m ++ q) := by
      rw [List.set_append_right _ _ (Nat.le_refl _), Nat.sub_self]; simp
    rw [e] at h1
    have h2 := Blk.setCells q r m (p ++ [v]) _ (by simpa using hl) h1
    rw [World.setCells]
    simpa using h2

/-! ### the operations -/
variable {P : Program} {ops : Array Oper} {rest : List Oper} {o : Oper} {a : Act} {w : World} {Q : Exit → Act → World → Prop}
/-- A new variable of an array's type. -/
theorem al_zero (hg : o.guard = none) (t : TypeId) (ho : o.op = .alloc t) (cs : List Value) (hz : (P.info? t).map (fun i => i.zero.map (·.cells)) = some (some cs.toArray))
    (h : ∀ g w', w.heap.size ≤ g → Blk w' g t cs → w.grownBy w' none → wpList P ops Q rest (a.put o.dst (.pointer (some ⟨g, 0, none⟩))) w') : wpList P ops Q (o :: rest) a w := by
  refine wpList_plain hg fun K hK => ?_
  unfold Oper.wp execOp
  cases hi : P.info? t with
  | none => simp [hi] at hz
  | some i =>
    cases hq : i.zero with
    | none => simp [hi, hq] at hz
    | some z =>
      have hc : z.cells = cs.toArray := by simpa [hi, hq] using hz
      have hzv : (zeroValue t).run P w = .ok z w := by simp [zeroValue, typeInfo, hi, hq]
      simp only [ho, Sem.run_bind, Instr.alloc, hzv, newVar, newRow, run_newObj_alloc, Sem.run_pure, Result.andThen_ok, hc]
      exact hK _ _ (h _ _ (Nat.le_refl _) (blk_new w t cs) (World.grownBy_alloc w _ none))
/-- A parameter gets a place of its own. -/
theorem al_box (hg : o.guard = none) (t : TypeId) (x : Operand) (ho : o.op = .box t x) (cs : List Value) (hx : a.eval x = .agg cs.toArray)
    (h : ∀ g w', w.heap.size ≤ g → Blk w' g t cs → w.grownBy w' none → wpList P ops Q rest (a.put o.dst (.pointer (some ⟨g, 0, none⟩))) w') : wpList P ops Q (o :: rest) a w := by
  refine wpList_plain hg fun K hK => ?_
  unfold Oper.wp execOp
  simp only [ho, hx, Value.cells, Sem.run_bind, Instr.box, newVar, newRow, run_newObj_alloc, Sem.run_pure, Result.andThen_ok]
  exact hK _ _ (h _ _ (Nat.le_refl _) (blk_new w t cs) (World.grownBy_alloc w _ none))
/-- A whole array is stored. -/
theorem st_row (hg : o.guard = none) (ty : TypeId) (x y : Operand) (ho : o.op = .store ty x y) (b off : Nat) (t : TypeId) (p m q m' : List Value)
    (hx : a.eval x = .pointer (some ⟨b, off, none⟩)) (hy : a.eval y = .agg m'.toArray) (hp : p.length = off) (hb : Blk w b t (p ++ (m ++ q))) (hl : m'.length = m.length)
    (hi : (P.info? ty).map (·.size) = some m'.length) (h1 : ∀ v ∈ m', v.oneCell' = true)
    (h : ∀ w', Blk w' b t (p ++ (m' ++ q)) → w.grownBy w' (some b) → wpList P ops Q rest (a.put o.dst undef) w') : wpList P ops Q (o :: rest) a w := by
  subst hp
  refine wpList_store_mid hg ty x y ho b p.length m'.toArray hx hy (hb.there _ _ (by simp; omega)) (by simpa using hi) (all_oneCell_toArray h1) ?_
  exact h _ (by simpa using Blk.setCells q m' m p w hl hb) (by simpa using grown_setCells b m' p.length w)
theorem st_all (hg : o.guard = none) (ty : TypeId) (x y : Operand) (ho : o.op = .store ty x y) (b : Nat) (t : TypeId) (m m' : List Value)
    (hx : a.eval x = .pointer (some ⟨b, 0, none⟩)) (hy : a.eval y = .agg m'.toArray) (hb : Blk w b t m) (hl : m'.length = m.length)
    (hi : (P.info? ty).map (·.size) = some m'.length) (h1 : ∀ v ∈ m', v.oneCell' = true)
    (h : ∀ w', Blk w' b t m' → w.grownBy w' (some b) → wpList P ops Q rest (a.put o.dst undef) w') : wpList P ops Q (o :: rest) a w :=
  st_row hg ty x y ho b 0 t [] m [] m' hx hy rfl (by simpa using hb) hl hi h1 (fun w' h2 h3 => h w' (by simpa using h2) h3)
theorem ld_all (hg : o.guard = none) (ty : TypeId) (x : Operand) (ho : o.op = .load ty x) (b : Nat) (t : TypeId) (m : List Value) (n : Nat) (e : TypeId)
    (hx : a.eval x = .pointer (some ⟨b, 0, none⟩)) (hb : Blk w b t m) (hu : P.underlying ty = some (.array n e)) (hi : (P.info? ty).map (·.size) = some m.length)
    (h : wpList P ops Q rest (a.put o.dst (.agg m.toArray)) w) : wpList P ops Q (o :: rest) a w :=
  wpList_load_mid hg ty x ho b 0 hx m _ hb.all hu rfl hi h
/-- A number is stored into a row of numbers. -/
theorem st_num (hg : o.guard = none) (ty : TypeId) (x y : Operand) (ho : o.op = .store ty x y) (b i : Nat) (t : TypeId) (k : IntKind) (l : List Nat) (v : Int) (n : Nat)
    (hx : a.eval x = .pointer (some ⟨b, i, none⟩)) (hy : a.eval y = .int k v) (hv : v = (n : Int)) (hb : Blk w b t (nums k l)) (hi : i < l.length) (hs : (P.info? ty).map (·.size) = some 1)
    (h : ∀ w', Blk w' b t (nums k (l.set i n)) → w.grownBy w' (some b) → wpList P ops Q rest (a.put o.dst undef) w') : wpList P ops Q (o :: rest) a w := by
  subst hv
  have hst := run_storeCells_cells (P := P) b i [.int k (n : Int)] 0 w (fun j hj => by
      have : j = 0 := by simpa using hj
      subst this
      rw [Nat.add_zero, hb.num i hi]; rfl) (fun j hj => hb.frozen _) (by simp [Value.oneCell'])
  refine wpList_plain hg fun K hK => ?_
  unfold Oper.wp execOp
  cases hq : P.info? ty with
  | none => simp [hq] at hs
  | some q =>
    have hq1 : q.size = 1 := by simpa [hq] using hs
    simp only [Nat.add_zero] at hst
    have hsv : (storeVar ty ⟨b, i, none⟩ (.int k (n : Int))).run P w = .ok () (w.setCells b i [.int k (n : Int)]) := by
      simp [storeVar, Go.sizeOf, typeInfo, hq, Value.cells, hq1, hst]
    simp only [ho, hx, hy, Instr.storeAt, Instr.sureAddr, Sem.run_bind, Sem.run_pure, Result.andThen_ok, hsv]
    exact hK _ _ (h _ (hb.setNum i n) (grown_setCell w _ _))
/-- A result that is an array, out of its cell. -/
theorem res_row {fn : Func} {p : Tmp} {ty : TypeId} (h : fn.results = #[.cell p ty]) (tmps : Array Value) (g : Nat) (t : TypeId) (cs : List Value) (d : TypeDesc)
    (hp : tmps.getD p undef = .pointer (some ⟨g, 0, none⟩)) (hg : Blk w g t cs) (hu : P.underlying ty = some d) (hd : d.isRow = true) (hi : (P.info? ty).map (·.size) = some cs.length) :
    (results fn tmps).run P w = .ok (.agg cs.toArray) w :=
  results_cell_row h tmps w g t cs.toArray (0, 0) d hp hg hu (by cases d <;> simp_all [TypeDesc.isRow]) (by simpa using hi)
/-- An element of an array that is a value. -/
theorem idx_run {t : TypeId} {n : Nat} {e : TypeId} (hu : P.underlying t = some (.array n e)) (hs : ∀ w, (Go.sizeOf e).run P w = .ok 1 w) (ha : ∀ w, (isAgg e).run P w = .ok false w)
    (k : IntKind) (l : List Nat) (i : Nat) (hi : i < n) (hl : i < l.length) (w : World) :
    (Instr.index t (.agg (nums k l).toArray) (.int .i64 (i : Int))).run P w = .ok (.int k ((l.getD i 0 : Nat) : Int)) w := by
  have hv : (nums k l).toArray[i]? = some (.int k ((l.getD i 0 : Nat) : Int)) := by rw [List.getElem?_toArray, nums_get k l i hl]
  have h0 : (0 : Int) ≤ (i : Int) ∧ (i : Int) < (n : Int) := ⟨by omega, by omega⟩
  simp only [Instr.index, asIntOf, Sem.run_bind, Sem.run_pure, Result.andThen_ok, run_underlying hu w, h0, and_self, if_true, hs, part, ha, Int.toNat_natCast, Nat.mul_one, hv, Bool.false_eq_true, if_false]
theorem z25 : (Try.prog.info? 36).map (fun i => i.zero.map (·.cells)) = some (some (nums .u8 (List.replicate 32 0)).toArray) := by kernel_rfl
theorem z41 : (Try.prog.info? 60).map (fun i => i.zero.map (·.cells)) = some (some (nums .u32 (List.replicate 8 0)).toArray) := by kernel_rfl
theorem z42 : (Try.prog.info? 61).map (fun i => i.zero.map (·.cells)) = some (some (nums .u8 (List.replicate 64 0)).toArray) := by kernel_rfl
theorem z50 : (Try.prog.info? 72).map (fun i => i.zero.map (·.cells)) = some (some (nums .u32 (List.replicate 64 0)).toArray) := by kernel_rfl
theorem z45 : (Try.prog.info? 63).map (fun i => i.zero.map (·.cells)) = some (some (nums .u32 (List.replicate 8 0) ++ (nums .u8 (List.replicate 64 0) ++ nums .u64 [0])).toArray) := by kernel_rfl
theorem s25 : (Try.prog.info? 36).map (·.size) = some 32 := by kernel_rfl
theorem s41 : (Try.prog.info? 60).map (·.size) = some 8 := by kernel_rfl
theorem s42 : (Try.prog.info? 61).map (·.size) = some 64 := by kernel_rfl
theorem s50 : (Try.prog.info? 72).map (·.size) = some 64 := by kernel_rfl
theorem s40 : (Try.prog.info? 59).map (·.size) = some 1 := by kernel_rfl
theorem s5 : (Try.prog.info? 5).map (·.size) = some 1 := by kernel_rfl
theorem s45 : (Try.prog.info? 63).map (·.size) = some 73 := by kernel_rfl
#print axioms st_all
#print axioms z45
end Go.Proofs.Ythmnjamnaibcgaa.Sh
namespace Go.Proofs.Ythmnjamnaibcgaa.Sh
open Go.RowKit Mt
theorem rot_bits (x n : Nat) (hx : x < 4294967296) : bits .or .u32 ((x : Int) / 2 ^ n) ((x : Int) * 2 ^ (32 - n) % 4294967296) = ((rotr x n : Nat) : Int) := by
  have := u32_or_nat (x / 2 ^ n) (x * 2 ^ (32 - n) % 4294967296) (Nat.lt_of_le_of_lt (Nat.div_le_self _ _) hx) (Nat.mod_lt _ (by decide))
  unfold rotr
  rw [← this]
  simp
set_option maxRecDepth 8000 in
set_option maxHeartbeats 400000 in
theorem turn_any (x n : Nat) (hx : x < 4294967296) (hn : n ≤ 32) (w : World) :
    Calls Try.prog 47 #[.int .u32 x, .int .i64 n] w fun e w' => e = .returned (.int .u32 ((rotr x n : Nat) : Int)) ∧ ∃ q, w' = w.drewN q := by
  have HR : Hid (bits .or .u32 ((x : Int) / 2 ^ n) ((x : Int) * 2 ^ (32 - n) % 4294967296) = ((rotr x n : Nat) : Int)) := rot_bits x n hx
  have e1 : ((32 : Int) - (n : Int)).toNat = 32 - n := by omega
  go_enter Try.func47, Try.ntmps47
  go_wp2
  go_quiet (fail)
  go_wp2
  go_ret
  exact ⟨ret_int HR.out, _, rfl⟩
set_option maxRecDepth 8000 in
set_option maxHeartbeats 400000 in
theorem r_any (x n : Nat) (hx : x < 4294967296) (hn : n ≤ 32) (w : World) :
    Calls Try.prog 48 #[.int .u32 x, .int .u64 n] w fun e w' => e = .returned (.int .u32 ((rotr x n : Nat) : Int)) ∧ w' = w := by
  have HR : Hid (bits .or .u32 ((x : Int) / 2 ^ n) ((x : Int) * 2 ^ (32 - n) % 4294967296) = ((rotr x n : Nat) : Int)) := rot_bits x n hx
  have e1 : ((32 : Int) - (n : Int)).toNat = 32 - n := by omega
  go_enter Try.func48, Try.ntmps48
  go_wp2
  go_ret
  exact ⟨ret_int HR.out, rfl⟩
theorem turn_lit (x n : Nat) (hx : x < 4294967296) (hn : n ≤ 32) (w : World) :
    Calls Try.prog 47 #[.int .u32 (x : Int), .int .i64 (@OfNat.ofNat Int n instOfNat)] w fun e w' => e = .returned (.int .u32 ((rotr x n : Nat) : Int)) ∧ ∃ q, w' = w.drewN q := turn_any x n hx hn w
theorem r_lit (x n : Nat) (hx : x < 4294967296) (hn : n ≤ 32) (w : World) :
    Calls Try.prog 48 #[.int .u32 (x : Int), .int .u64 (@OfNat.ofNat Int n instOfNat)] w fun e w' => e = .returned (.int .u32 ((rotr x n : Nat) : Int)) ∧ w' = w := r_any x n hx hn w
end Go.Proofs.Ythmnjamnaibcgaa.Sh
namespace Go.Proofs.Ythmnjamnaibcgaa.Sh
open Go.RowKit Mt
def kParts : Array (Nat × Operand) := #[(0, .const (.int .u32 1116352408)), (1, .const (.int .u32 1899447441)), (2, .const (.int .u32 3049323471)), (3, .const (.int .u32 3921009573)), (4, .const (.int .u32 961987163)), (5, .const (.int .u32 1508970993)), (6, .const (.int .u32 2453635748)), (7, .const (.int .u32 2870763221)), (8, .const (.int .u32 3624381080)), (9, .const (.int .u32 310598401)), (10, .const (.int .u32 607225278)), (11, .const (.int .u32 1426881987)), (12, .const (.int .u32 1925078388)), (13, .const (.int .u32 2162078206)), (14, .const (.int .u32 2614888103)), (15, .const (.int .u32 3248222580)), (16, .const (.int .u32 3835390401)), (17, .const (.int .u32 4022224774)), (18, .const (.int .u32 264347078)), (19, .const (.int .u32 604807628)), (20, .const (.int .u32 770255983)), (21, .const (.int .u32 1249150122)), (22, .const (.int .u32 1555081692)), (23, .const (.int .u32 1996064986)), (24, .const (.int .u32 2554220882)), (25, .const (.int .u32 2821834349)), (26, .const (.int .u32 2952996808)), (27, .const (.int .u32 3210313671)), (28, .const (.int .u32 3336571891)), (29, .const (.int .u32 3584528711)), (30, .const (.int .u32 113926993)), (31, .const (.int .u32 338241895)), (32, .const (.int .u32 666307205)), (33, .const (.int .u32 773529912)), (34, .const (.int .u32 1294757372)), (35, .const (.int .u32 1396182291)), (36, .const (.int .u32 1695183700)), (37, .const (.int .u32 1986661051)), (38, .const (.int .u32 2177026350)), (39, .const (.int .u32 2456956037)), (40, .const (.int .u32 2730485921)), (41, .const (.int .u32 2820302411)), (42, .const (.int .u32 3259730800)), (43, .const (.int .u32 3345764771)), (44, .const (.int .u32 3516065817)), (45, .const (.int .u32 3600352804)), (46, .const (.int .u32 4094571909)), (47, .const (.int .u32 275423344)), (48, .const (.int .u32 430227734)), (49, .const (.int .u32 506948616)), (50, .const (.int .u32 659060556)), (51, .const (.int .u32 883997877)), (52, .const (.int .u32 958139571)), (53, .const (.int .u32 1322822218)), (54, .const (.int .u32 1537002063)), (55, .const (.int .u32 1747873779)), (56, .const (.int .u32 1955562222)), (57, .const (.int .u32 2024104815)), (58, .const (.int .u32 2227730452)), (59, .const (.int .u32 2361852424)), (60, .const (.int .u32 2428436474)), (61, .const (.int .u32 2756734187)), (62, .const (.int .u32 3204031479)), (63, .const (.int .u32 3329325298))]
def iParts : Array (Nat × Operand) := #[(0, .const (.int .u32 1779033703)), (1, .const (.int .u32 3144134277)), (2, .const (.int .u32 1013904242)), (3, .const (.int .u32 2773480762)), (4, .const (.int .u32 1359893119)), (5, .const (.int .u32 2600822924)), (6, .const (.int .u32 528734635)), (7, .const (.int .u32 1541459225))]
theorem bd_row {P : Program} {ops : Array Oper} {rest : List Oper} {o : Oper} {a : Act} {w : World} {Q : Exit → Act → World → Prop} (hg : o.guard = none) (t : TypeId) (parts : Array (Nat × Operand)) (ho : o.op = .build t parts) (cs : List Value)
    (hf : P.built t (parts.map fun p => (p.1, a.eval p.2)).toList = some cs.toArray) (h : wpList P ops Q rest (a.put o.dst (.agg cs.toArray)) w) : wpList P ops Q (o :: rest) a w :=
  wpList_plain hg fun _ hK => by
    have e : P.built t (parts.map fun (i, x) => (i, a.eval x)).toList = some cs.toArray := hf
    exact wp_build t parts ho (by rw [e]; rfl) (by rw [e]; exact hK _ _ h)
theorem k_built (a : Act) : Try.prog.built 72 (kParts.map fun p => (p.1, a.eval p.2)).toList = some (nums .u32 K).toArray := by kernel_rfl
theorem i_built (a : Act) : Try.prog.built 60 (iParts.map fun p => (p.1, a.eval p.2)).toList = some (nums .u32 init.l).toArray := by kernel_rfl
theorem v_built (a b c d e f g h : Nat) : Try.prog.built 60 [(0, .int .u32 (a : Int)), (1, .int .u32 (b : Int)), (2, .int .u32 (c : Int)), (3, .int .u32 (d : Int)), (4, .int .u32 (e : Int)), (5, .int .u32 (f : Int)), (6, .int .u32 (g : Int)), (7, .int .u32 (h : Int))] = some (nums .u32 [a, b, c, d, e, f, g, h]).toArray := by kernel_rfl
theorem bd_eight {ops : Array Oper} {rest : List Oper} {o : Oper} {a : Act} {w : World} {Q : Exit → Act → World → Prop} (hg : o.guard = none) (t0 t1 t2 t3 t4 t5 t6 t7 : Nat)
    (ho : o.op = .build 60 #[(0, .tmp t0), (1, .tmp t1), (2, .tmp t2), (3, .tmp t3), (4, .tmp t4), (5, .tmp t5), (6, .tmp t6), (7, .tmp t7)]) (r : St)
    (h0 : a.eval (.tmp t0) = .int .u32 (r.a : Int)) (h1 : a.eval (.tmp t1) = .int .u32 (r.b : Int)) (h2 : a.eval (.tmp t2) = .int .u32 (r.c : Int)) (h3 : a.eval (.tmp t3) = .int .u32 (r.d : Int))
    (h4 : a.eval (.tmp t4) = .int .u32 (r.e : Int)) (h5 : a.eval (.tmp t5) = .int .u32 (r.f : Int)) (h6 : a.eval (.tmp t6) = .int .u32 (r.g : Int)) (h7 : a.eval (.tmp t7) = .int .u32 (r.h : Int))
    (h : wpList Try.prog ops Q rest (a.put o.dst (.agg (nums .u32 r.l).toArray)) w) : wpList Try.prog ops Q (o :: rest) a w := by
  refine bd_row hg 60 _ ho (nums .u32 r.l) ?_ h
  simp only [List.map_toArray, List.map_cons, List.map_nil, h0, h1, h2, h3, h4, h5, h6, h7]
  exact v_built _ _ _ _ _ _ _ _
#print axioms k_built
end Go.Proofs.Ythmnjamnaibcgaa.Sh
namespace Go.Proofs.Ythmnjamnaibcgaa.Sh
open Go.RowKit Mt
variable {P : Program} {ops : Array Oper} {rest : List Oper} {o : Oper} {a : Act} {w : World} {Q : Exit → Act → World → Prop}
theorem blk_setRow {g : Nat} {t : TypeId} {vs vs' : List Value} (h : Blk w g t vs) : Blk (w.setRow g vs'.toArray) g t vs' := setRow_heap w g _ _ t _ h
theorem grown_setRow (w : World) (g : Nat) (cs : Array Value) : w.grownBy (w.setRow g cs) (some g) :=
  ⟨rfl, rfl, rfl, by simp, fun k _ hk => setRow_other w g k cs (fun e => hk (by rw [e]))⟩
theorem cp_row (hgd : o.guard = none) (d s : Operand) (dT sT : TypeId) (ho : o.op = .call { callee := .builtin .copy, args := #[d, s], argTypes := #[dT, sT] }) (elem : TypeId) (hu : P.underlying dT = some (.slice elem)) (hsz : (P.info? elem).map (·.size) = some 1)
    (g off dLen dCap : Nat) (ad : Addr) (sLen sCap : Nat) (hd : a.eval d = .slice (some ⟨g, off, none⟩) dLen dCap) (hs : a.eval s = .slice (some ad) sLen sCap)
    (t : TypeId) (p m q cs : List Value) (hp : p.length = off) (hb : Blk w g t (p ++ (m ++ q))) (hl : cs.length = m.length) (hn : cs.length = Nat.min sLen dLen)
    (hsrc : ∀ j v, cs[j]? = some v → w.cell? (ad.add j) = some v) (h1 : ∀ v ∈ cs, v.oneCell' = true)
    (h : ∀ w', Blk w' g t (p ++ (cs ++ q)) → w.grownBy w' (some g) → wpList P ops Q rest (a.put o.dst (goInt cs.length)) w') : wpList P ops Q (o :: rest) a w := by
  subst hp
  refine wpList_copy_own hgd d s dT sT ho elem hu hsz g p.length dLen dCap ad sLen sCap hd hs (p ++ (m ++ q)).toArray t hb cs hn hsrc (by simp; omega) h1 ?_
  have e : (p ++ (m ++ q)).take p.length ++ (cs ++ (p ++ (m ++ q)).drop (p.length + cs.length)) = p ++ (cs ++ q) := by
    rw [List.take_left, hl, List.drop_append, List.drop_of_length_le (by omega), Nat.add_sub_cancel_left, List.drop_left, List.nil_append]
  rw [show (p ++ (m ++ q)).toArray.toList = p ++ (m ++ q) from rfl, e]
  exact h _ (blk_setRow hb) (grown_setRow w g _)
theorem st_cell (hg : o.guard = none) (ty : TypeId) (x y : Operand) (ho : o.op = .store ty x y) (b i : Nat) (t : TypeId) (k : IntKind) (p q : List Value) (old : Value) (v : Int) (n : Nat)
    (hx : a.eval x = .pointer (some ⟨b, i, none⟩)) (hy : a.eval y = .int k v) (hv : v = (n : Int)) (hp : p.length = i) (hb : Blk w b t (p ++ old :: q)) (hs : (P.info? ty).map (·.size) = some 1)
    (h : ∀ w', Blk w' b t (p ++ .int k (n : Int) :: q) → w.grownBy w' (some b) → wpList P ops Q rest (a.put o.dst undef) w') : wpList P ops Q (o :: rest) a w := by
  subst hv hp
  have hst := run_storeCells_cells (P := P) b p.length [.int k (n : Int)] 0 w (fun j hj => by
      have : j = 0 := by simpa using hj
      subst this
      rw [Nat.add_zero, hb.cell, List.getElem?_append_right (Nat.le_refl _), Nat.sub_self]; rfl) (fun j hj => hb.frozen _) (by simp [Value.oneCell'])
  refine wpList_plain hg fun K hK => ?_
  unfold Oper.wp execOp
  cases hq : P.info? ty with
  | none => simp [hq] at hs
  | some q1 =>
    have hq1 : q1.size = 1 := by simpa [hq] using hs
    simp only [Nat.add_zero] at hst
    have hsv : (storeVar ty ⟨b, p.length, none⟩ (.int k (n : Int))).run P w = .ok () (w.setCells b p.length [.int k (n : Int)]) := by
      simp [storeVar, Go.sizeOf, typeInfo, hq, Value.cells, hq1, hst]
    simp only [ho, hx, hy, Instr.storeAt, Instr.sureAddr, Sem.run_bind, Sem.run_pure, Result.andThen_ok, hsv]
    refine hK _ _ (h _ ?_ (grown_setCell w _ _))
    have := hb.set p.length (.int k (n : Int))
    rwa [List.set_append_right _ _ (Nat.le_refl _), Nat.sub_self] at this
theorem sl_from (hg : o.guard = none) (T : TypeId) (x y : Operand) (ho : o.op = .slice T x (some y) none none) (elem : TypeId) (hu : P.underlying T = some (.slice elem)) (hsz : ∀ w, (Go.sizeOf elem).run P w = .ok 1 w)
    (b off len cap n : Nat) (hx : a.eval x = .slice (some ⟨b, off, none⟩) len cap) (hy : a.eval y = .int .i64 (n : Int)) (hn : n ≤ len) (hc : len ≤ cap)
    (h : ∀ A, (n < len → A = some ⟨b, off + n, none⟩) → wpList P ops Q rest (a.put o.dst (.slice A (len - n) (cap - n))) w) : wpList P ops Q (o :: rest) a w := by
  refine wpList_plain hg fun K hK => ?_
  unfold Oper.wp execOp
  have h0 : (0 : Int) ≤ (n : Int) ∧ (n : Int) ≤ (len : Int) := ⟨by omega, by omega⟩
  have hr : (Instr.sliceAt T (.slice (some ⟨b, off, none⟩) len cap) (some (.int .i64 (n : Int))) none none).run P w = .ok (.slice (if cap = n then some ⟨b, off, none⟩ else some ⟨b, off + n, none⟩) (len - n) (cap - n)) w := by
    simp [Instr.sliceAt, Instr.slice, Instr.sliceBounds, Instr.sliceBound, asIntOf, run_underlying hu, h0, hsz, Addr.add_mid]
    omega
  simp only [ho, hx, hy, Option.map_some, Option.map_none, hr, Sem.run_bind, Result.andThen_ok]
  exact hK _ _ (h _ fun hlt => by rw [if_neg (by omega)])
#print axioms sl_from
end Go.Proofs.Ythmnjamnaibcgaa.Sh
namespace Go.Proofs.Ythmnjamnaibcgaa.Sh
open Go.RowKit Mt
def slen : Value → Nat | .slice _ n _ => n | _ => 0
theorem be8_get (v j : Nat) (hj : j < 8) : (be8 v).getD j 0 = v / 2 ^ (56 - 8 * j) % 256 := by
  unfold be8
  rw [List.getD_eq_getElem?_getD, List.getElem?_map, List.getElem?_range hj]; rfl
theorem be8_len (v : Nat) : (be8 v).length = 8 := by simp [be8]
theorem be8_snoc (v j : Nat) (hj : j < 8) : (be8 v).take (j + 1) = (be8 v).take j ++ [v / 2 ^ (56 - 8 * j) % 256] := by
  rw [take_snoc _ _ (by rw [be8_len]; exact hj), be8_get v j hj]
theorem own_one (w : World) (x : Nat) (base : Nat) (hb : base ≤ w.heap.size) : Own (w.alloc (.cells #[.int .u8 (x : Int)] 5)) base (.slice (some ⟨w.heap.size, 0, none⟩) 1 1) [x] :=
  World.ownsRow_lit w #[.int .u8 (x : Int)] 1 hb (by decide) rfl
theorem pad_eq (n z : Nat) (hz : Hid (z = (119 - n % 64) % 64)) : 128 :: (List.replicate z 0 ++ be8 (8 * n)) = pad n := by rw [hz.out]; rfl
set_option maxHeartbeats 1000000 in
set_option maxRecDepth 8000 in
theorem ending_any (n : Nat) (hn : n ≤ 1000000) (w : World) :
    Calls Try.prog 40 #[.int .u64 n] w fun e w' => ∃ g c, e = .returned (.slice (some ⟨g, 0, none⟩) (pad n).length c) ∧ w.heap.size ≤ g ∧ (pad n).length ≤ c ∧ Cells w' g 0 (pad n) ∧ Below w.heap.size w w' := by
  obtain ⟨Z, hZ⟩ : ∃ Z : Nat, Hid (Z = (119 - n % 64) % 64) := ⟨_, rfl⟩
  have hZ1 : Hid ((n + Z + 9) % 64 = 0 ∧ Z < 64 ∧ ∀ z, z < Z → (n + z + 9) % 64 ≠ 0) := by
    have := hZ.out
    exact ⟨by omega, by omega, fun z hz => by omega⟩
  have HP : Hid (128 :: (List.replicate Z 0 ++ be8 (8 * n)) = pad n) := pad_eq n Z hZ
  clear hZ
  have O0 := own_one w 128 _ (Nat.le_refl _)
  have b0 : Below w.heap.size w (w.alloc (.cells #[.int .u8 ((128 : Nat) : Int)] 5)) := (Below.refl _ _).alloc (Nat.le_refl _) _
  go_enter Try.func40, Try.ntmps40
  go_wp2
  go_loopw [3] (fun o wr => ∃ z : Nat, z ≤ Z ∧ Own wr w.heap.size o (128 :: List.replicate z 0) ∧ Below w.heap.size w wr) (fun o _ => 64 - slen o)
  case atStart => exact ⟨0, Nat.zero_le _, O0, b0⟩
  case round =>
    clear O0 b0
    obtain ⟨z, hz, hown, hbel⟩ := hrel
    obtain ⟨h0, hZl, hne⟩ := hZ1.out
    have hs := hbel.size
    obtain ⟨g, cap, rfl, hg, hgl, hlc, hcm, hcell⟩ := hown.form (by simp)
    have el : (128 :: List.replicate z 0).length = z + 1 := by simp
    rw [el] at hlc hown ⊢
    have HO : Hid (Own wr w.heap.size (.slice (some ⟨g, 0, none⟩) (z + 1) cap) (128 :: List.replicate z 0)) := hown
    clear hown hcell el
    by_cases hlt : z < Z
    · have hc : ¬ (((n : Int) + ((z : Int) + 1) + 8) % 64 = 0) := by have := hne z hlt; omega
      clear hne h0
      go_wp2_with (at_builtin; go_must (refine app_bytes rfl (.tmp 15) (.tmp 16) rfl w.heap.size _ (128 :: List.replicate z 0) rfl (Own.alloc HO.out _) _ _ _ [0] rfl rfl (byt_lit wr [0]) (by simp) (by simp; omega) (by simp; omega) ?_))
      intro v1 w1 o1 g1
      have b1 := below_app (hbel.alloc hs _) (by simp; omega) (Own.alloc HO.out _) g1
      have o1 : Own w1 w.heap.size v1 (128 :: List.replicate (z + 1) 0) := by rw [List.replicate_succ']; exact o1
      obtain ⟨g', cap', rfl, _⟩ := o1.form (by simp)
      have el : (128 :: List.replicate (z + 1) 0).length = z + 2 := by simp
      rw [el] at o1 ⊢
      have HO1 : Hid (Own w1 w.heap.size (.slice (some ⟨g', 0, none⟩) (z + 2) cap') (128 :: List.replicate (z + 1) 0)) := o1
      clear g1 o1 el
      go_wp2
      go_roundw
      case rel => exact ⟨z + 1, hlt, HO1.out, b1⟩
      case measure => simp only [slen]; omega
    · obtain rfl : z = Z := by omega
      have hc : ((n : Int) + ((z : Int) + 1) + 8) % 64 = 0 := by omega
      clear hne h0
      go_wp2
      go_loopw [3, 20] (fun o i wr => ∃ j : Nat, j ≤ 8 ∧ i = .int .i64 (j : Int) ∧ Own wr w.heap.size o (128 :: (List.replicate z 0 ++ (be8 (8 * n)).take j)) ∧ Below w.heap.size w wr) (fun _ i _ => 8 - (intOf i).toNat)
      case atStart => exact ⟨0, by omega, rfl, by rw [List.take_zero, List.append_nil]; exact HO.out, hbel⟩
      case round =>
        clear hbel HO hs hc
        obtain ⟨j, hj, rfl, hown, hbel⟩ := hrel
        have hs := hbel.size
        have hll : (128 :: (List.replicate z 0 ++ (be8 (8 * n)).take j)).length ≤ 80 := by simp [be8_len]; omega
        by_cases h8 : j < 8
        · have HO : Hid _ := be8_snoc (8 * n) j h8
          have t0 : (56 - 8 * (j : Int)).toNat = 56 - 8 * j := by omega
          obtain ⟨y, hy, HY⟩ : ∃ y : Nat, 8 * (n : Int) / 2 ^ (56 - 8 * j) % 256 = (y : Int) ∧ Hid (y = 8 * n / 2 ^ (56 - 8 * j) % 256) := ⟨_, by simp, rfl⟩
          go_wp2_with (at_builtin; go_must (refine app_bytes rfl (.tmp 23) (.tmp 30) rfl w.heap.size _ (128 :: (List.replicate z 0 ++ (be8 (8 * n)).take j)) rfl (hown.alloc _) _ _ _ [y] rfl rfl (byt_lit wr [y]) (by simp) (by simp [be8_len]; omega) (by simp; omega) ?_))
          intro v1 w1 o1 g1
          have b1 := below_app (hbel.alloc hs _) (by simp; omega) (hown.alloc _) g1
          have HO1 : Hid (Own w1 w.heap.size v1 (128 :: (List.replicate z 0 ++ (be8 (8 * n)).take (j + 1)))) := by
            show Own _ _ _ _
            rw [HO.out, ← HY.out]; exact o1
          clear g1 o1 hown hll
          go_wp2
          go_roundw
          case rel => exact ⟨j + 1, by omega, by go_num, HO1.out, b1⟩
          case measure => simp [intOf]; omega
        · obtain rfl : j = 8 := by omega
          rw [List.take_of_length_le (by rw [be8_len]; exact Nat.le_refl _), HP.out] at hown
          clear hll
          obtain ⟨g', cap', rfl, hg', _, hlc', _, hcell⟩ := hown.form (by unfold pad; simp)
          have HC : Hid _ := hcell
          clear hcell hown
          go_wp2
          go_ret
          exact ⟨g', cap', rfl, hg', hlc', HC.out, hbel⟩
#print axioms ending_any
end Go.Proofs.Ythmnjamnaibcgaa.Sh
