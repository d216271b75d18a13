/-
  codec.Encode. · Plain mathematics, of no program: SHA-256 over lists of numbers. · Blocks over lists: what an entry is, its bytes, a block's bytes, and the first reason why it is none. No program is named.
-/
import Derived.Test.YtmbglggodifboaaDoorSWg
import Derived.Laws.BitsAllLaws
namespace Go.Proofs.YtmbglggodifboaaDoor
open Go.RowKit Math
set_option linter.unusedVariables false
/-- What Encode answers. -/
def encE (p : Vt) : Int := if chkV p 1 ≠ 0 then chkV p 1 else if 65536 < (encV p).length then 5 else 0
def encB (p : Vt) : List Nat := if encE p = 0 then encV p else []
theorem encE_no {p : Vt} (h : chkV p 1 ≠ 0) : encE p = chkV p 1 ∧ encB p = [] := by
  have e : encE p = chkV p 1 := by unfold encE; rw [if_pos h]
  exact ⟨e, by unfold encB; rw [e, if_neg h]⟩
theorem encE_long {p : Vt} (h : chkV p 1 = 0) (hl : 65536 < (encV p).length) : encE p = 5 ∧ encB p = [] := by
  have e : encE p = 5 := by unfold encE; rw [if_neg (by simpa using h), if_pos hl]
  exact ⟨e, by unfold encB; rw [e]; rfl⟩
theorem encE_yes {p : Vt} (h : chkV p 1 = 0) (hl : ¬ 65536 < (encV p).length) : encE p = 0 ∧ encB p = encV p := by
  have e : encE p = 0 := by unfold encE; rw [if_neg (by simpa using h), if_neg hl]
  exact ⟨e, by unfold encB; rw [e]; rfl⟩
theorem chk1 {p : Vt} (h : chkV p 1 = 0) : chk0V p = 0 := by rw [← chkV_flat p 1 (deepV_of p 1 h)]; exact h
set_option maxRecDepth 8000 in
theorem encode_all (p : Vt) (hw : WfV p) (hl : chkV p 1 = 0 → (encV p).length ≤ 12000000) (na : Option Addr) (nc : Nat) (ka : Option Addr) (kc : Nat) (W : World) (hv : Vl W p na nc ka kc) :
    Calls Tryd.prog 43 #[.agg #[.int .i64 p.1.k, .int .i64 p.1.n, .int .i64 p.1.s, .string p.1.t, .slice na p.1.ns.length nc, .slice ka p.2.list.length kc]] W fun e w' => ∃ v', e = .returned (.tuple #[v', .int .i64 (encE p)]) ∧ Hid (Own w' W.heap.size v' (encB p) ∧ Below W.heap.size W w') := by
  obtain ⟨W1, HW1⟩ : ∃ W1, Hid (W.alloc (.cells #[.int .i64 p.1.k, .int .i64 p.1.n, .int .i64 p.1.s, .string p.1.t, .slice na p.1.ns.length nc, .slice ka p.2.list.length kc] 39) = W1) := ⟨_, rfl⟩
  have HX : Hid (Blk W1 W.heap.size 39 (six p.1 na nc ka p.2.list.length kc)) := by rw [← HW1.out]; exact blk_new W 39 (six p.1 na nc ka p.2.list.length kc)
  have HB1 : Hid (Below W.heap.size W W1) := by rw [← HW1.out]; exact (Below.refl _ _).alloc (Nat.le_refl _) _
  have hz1 : W1.heap.size = W.heap.size + 1 := by have := HW1.out; subst this; simp
  have HV : Hid (Vl W p na nc ka kc) := hv
  have KC := vCheck_any p hw na nc ka kc W1 (hv.below HB1.out)
  have KA : Hid (chkV p 1 = 0 → AvC p ∧ (encV p).length ≤ 12000000) := fun h => ⟨av_any _ p (Nat.le_refl _) hw (chk1 h), hl h⟩
  have HN : Hid (chkV p 1 ≠ 0 → encE p = chkV p 1 ∧ encB p = []) := encE_no
  have HL : Hid (chkV p 1 = 0 → 65536 < (encV p).length → encE p = 5 ∧ encB p = []) := encE_long
  have HY : Hid (chkV p 1 = 0 → ¬ 65536 < (encV p).length → encE p = 0 ∧ encB p = encV p) := encE_yes
  generalize encE p = EE at *
  generalize encB p = BB at *
  generalize chkV p 1 = E at *
  clear hv
  go_enter Tryd.func43, Tryd.ntmps43
  go_wp2_with fail
  generalize hWW : World.alloc W _ = W9
  obtain rfl : W1 = W9 := by rw [← hWW, ← HW1.out]
  clear hWW HW1
  refine KC.mono ?_
  clear KC
  rintro e w1 ⟨rfl, b1⟩
  have HB2 : Hid (Below W.heap.size W w1) := HB1.out.trans (b1.mono HB1.out.size)
  have HX2 : Hid (Blk w1 W.heap.size 39 (six p.1 na nc ka p.2.list.length kc)) := HX.out.below b1 HX.out.lt
  clear b1 HB1 HX
  by_cases hE : E = 0
  case neg =>
    obtain ⟨e1, e2⟩ := HN.out hE
    subst e1 e2
    have hEb : (EE != 0) = true := by simpa using hE
    go_wp2
    go_ret2
    exact ⟨_, rfl, World.ownsRow_nil _ _ _ _, HB2.out⟩
  subst hE
  obtain ⟨ka1, kl1⟩ := KA.out rfl
  have c0 : w1.cell? ⟨W.heap.size, 0, none⟩ = some (.int .i64 p.1.k) := HX2.out.cell 0
  have c1 : w1.cell? ⟨W.heap.size, 1, none⟩ = some (.int .i64 p.1.n) := HX2.out.cell 1
  have c2 : w1.cell? ⟨W.heap.size, 2, none⟩ = some (.int .i64 p.1.s) := HX2.out.cell 2
  have c3 : w1.cell? ⟨W.heap.size, 3, none⟩ = some (.string p.1.t) := HX2.out.cell 3
  have c4 : w1.cell? ⟨W.heap.size, 4, none⟩ = some (.slice na p.1.ns.length nc) := HX2.out.cell 4
  have c5 : w1.cell? ⟨W.heap.size, 5, none⟩ = some (.slice ka p.2.list.length kc) := HX2.out.cell 5
  have KV := ka1 na nc ka kc (.slice none 0 0) [] W.heap.size W w1 HV.out HB2.out (Nat.le_refl _) HB2.out.size (World.ownsRow_nil _ _ _ _) (by simp only [List.length_nil]; omega)
  clear KA HN ka1
  go_wp2_with fail
  refine KV.mono ?_
  clear KV c0 c1 c2 c3 c4 c5
  rintro e w2 ⟨v2, l2, rfl, H2⟩
  have HB3 : Hid (Below W.heap.size W w2) := H2.out.1.below (show Own w1 W.heap.size (.slice none 0 0) [] from World.ownsRow_nil _ _ _ _) HB2.out HB2.out.size (Nat.le_refl _)
  have HO2 : Hid (Own w2 W.heap.size v2 l2) := H2.out.1.own
  have HW2 : Hid (Wr [] (encV p) l2) := H2.out.2
  obtain ⟨ax, c, rfl, _, _, hlc, hcm⟩ := HO2.out.byt
  clear H2 HX2 HB2
  have hup : l2.length ≤ 12000000 := by have := HW2.out.up; simp only [List.length_nil] at this; omega
  by_cases hl : 65536 < l2.length
  · have hl2 : 65536 < (encV p).length := by have := HW2.out.up; simp only [List.length_nil] at this; omega
    obtain ⟨e1, e2⟩ := HL.out (by trivial) hl2
    subst e1 e2
    have hlb : decide ((65536 : Int) < (l2.length : Int)) = true := by simp; omega
    clear hl2
    go_wp2
    go_ret2
    exact ⟨_, rfl, World.ownsRow_nil _ _ _ _, HB3.out⟩
  · have e : l2 = encV p := by
      rcases HW2.out.out with h | h
      · simpa using h
      · exact absurd h hl
    obtain ⟨e1, e2⟩ := HY.out (by trivial) (by rw [← e]; exact hl)
    subst e1
    have HO3 : Hid (Own w2 W.heap.size (.slice ax l2.length c) BB) := by rw [e2, ← e]; exact HO2.out
    have hlb : decide ((65536 : Int) < (l2.length : Int)) = false := by simp; omega
    clear e e2 HL HY
    go_wp2
    go_ret2
    exact ⟨_, rfl, HO3.out, HB3.out⟩
end Go.Proofs.YtmbglggodifboaaDoor
namespace Go.Proofs.YtmbglggodifboaaDoor.Sh.Mt

/-! ### words -/
def rotr (x n : Nat) : Nat := x / 2 ^ n ||| x * 2 ^ (32 - n) % 4294967296
def bs1 (e : Nat) : Nat := rotr e 6 ^^^ rotr e 11 ^^^ rotr e 25
def bs0 (a : Nat) : Nat := rotr a 2 ^^^ rotr a 13 ^^^ rotr a 22
def ss0 (x : Nat) : Nat := rotr x 7 ^^^ rotr x 18 ^^^ x / 8
def ss1 (y : Nat) : Nat := rotr y 17 ^^^ rotr y 19 ^^^ y / 1024
def cho (e f g : Nat) : Nat := (e &&& f) ^^^ ((4294967295 - e) &&& g)
def maj (a b c : Nat) : Nat := (a &&& b) ^^^ (a &&& c) ^^^ (b &&& c)
def K : List Nat := [1116352408, 1899447441, 3049323471, 3921009573, 961987163, 1508970993, 2453635748, 2870763221, 3624381080, 310598401, 607225278, 1426881987, 1925078388, 2162078206, 2614888103, 3248222580, 3835390401, 4022224774, 264347078, 604807628, 770255983, 1249150122, 1555081692, 1996064986, 2554220882, 2821834349, 2952996808, 3210313671, 3336571891, 3584528711, 113926993, 338241895, 666307205, 773529912, 1294757372, 1396182291, 1695183700, 1986661051, 2177026350, 2456956037, 2730485921, 2820302411, 3259730800, 3345764771, 3516065817, 3600352804, 4094571909, 275423344, 430227734, 506948616, 659060556, 883997877, 958139571, 1322822218, 1537002063, 1747873779, 1955562222, 2024104815, 2227730452, 2361852424, 2428436474, 2756734187, 3204031479, 3329325298]

/-! ### a state, a round -/
structure St where
  a : Nat
  b : Nat
  c : Nat
  d : Nat
  e : Nat
  f : Nat
  g : Nat
  h : Nat
def St.l (s : St) : List Nat := [s.a, s.b, s.c, s.d, s.e, s.f, s.g, s.h]
def init : St := ⟨1779033703, 3144134277, 1013904242, 2773480762, 1359893119, 2600822924, 528734635, 1541459225⟩
def tee (s : St) (k w : Nat) : Nat := (s.h + bs1 s.e + cho s.e s.f s.g + k + w) % 4294967296
def you (s : St) : Nat := (bs0 s.a + maj s.a s.b s.c) % 4294967296
def step (s : St) (k w : Nat) : St := ⟨(tee s k w + you s) % 4294967296, s.a, s.b, s.c, (s.d + tee s k w) % 4294967296, s.e, s.f, s.g⟩
def run (s : St) (W : List Nat) : Nat → St
  | 0 => s
  | i + 1 => step (run s W i) (K.getD i 0) (W.getD i 0)
def add32 (x y : Nat) : Nat := (x + y) % 4294967296
def plus (s v : St) : St := ⟨add32 s.a v.a, add32 s.b v.b, add32 s.c v.c, add32 s.d v.d, add32 s.e v.e, add32 s.f v.f, add32 s.g v.g, add32 s.h v.h⟩

/-! ### the words of a block -/
def word (b : Nat → Nat) (i : Nat) : Nat := ((b (4 * i) * 256 + b (4 * i + 1)) * 256 + b (4 * i + 2)) * 256 + b (4 * i + 3)
def next (l : List Nat) : Nat := (l.getD (l.length - 16) 0 + ss0 (l.getD (l.length - 15) 0) + l.getD (l.length - 7) 0 + ss1 (l.getD (l.length - 2) 0)) % 4294967296
def sched (b : Nat → Nat) : Nat → List Nat
  | 0 => (List.range 16).map (word b)
  | n + 1 => sched b n ++ [next (sched b n)]
def comp (s : St) (b : Nat → Nat) : St := plus s (run s (sched b 48) 64)
def part (m : List Nat) (j i : Nat) : Nat := m.getD (64 * j + i) 0
def blk (m : List Nat) : Nat → St
  | 0 => init
  | j + 1 => comp (blk m j) (part m j)

/-! ### what stands behind, the digest -/
def be8 (v : Nat) : List Nat := (List.range 8).map fun i => v / 2 ^ (56 - 8 * i) % 256
def pad (n : Nat) : List Nat := 128 :: (List.replicate ((119 - n % 64) % 64) 0 ++ be8 (8 * n))
def out (s : St) (i : Nat) : Nat := s.l.getD (i / 4) 0 / 2 ^ (24 - 8 * (i % 4)) % 256
def D (l : List Nat) : List Nat := (List.range 32).map (out (blk (l ++ pad l.length) ((l ++ pad l.length).length / 64)))

/-! ### bounds -/
theorem rotr_lt (x n : Nat) (hx : x < 4294967296) : rotr x n < 4294967296 := by
  unfold rotr
  exact Nat.or_lt_two_pow (n := 32) (Nat.lt_of_le_of_lt (Nat.div_le_self _ _) hx) (Nat.mod_lt _ (by decide))
theorem xor_lt {x y : Nat} (hx : x < 4294967296) (hy : y < 4294967296) : x ^^^ y < 4294967296 := Nat.xor_lt_two_pow (n := 32) hx hy
theorem and_lt {x y : Nat} (hx : x < 4294967296) : x &&& y < 4294967296 := Nat.lt_of_le_of_lt Nat.and_le_left hx
def St.ok (s : St) : Prop := s.a < 4294967296 ∧ s.b < 4294967296 ∧ s.c < 4294967296 ∧ s.d < 4294967296 ∧ s.e < 4294967296 ∧ s.f < 4294967296 ∧ s.g < 4294967296 ∧ s.h < 4294967296
theorem init_ok : init.ok := by unfold St.ok init; decide
theorem step_ok {s : St} (h : s.ok) (k w : Nat) : (step s k w).ok := by
  obtain ⟨h1, h2, h3, h4, h5, h6, h7, h8⟩ := h
  exact ⟨Nat.mod_lt _ (by decide), h1, h2, h3, Nat.mod_lt _ (by decide), h5, h6, h7⟩
theorem run_ok {s : St} (h : s.ok) (W : List Nat) : ∀ i, (run s W i).ok
  | 0 => h
  | i + 1 => step_ok (run_ok h W i) _ _
theorem add32_lt (x y : Nat) : add32 x y < 4294967296 := Nat.mod_lt _ (by decide)
theorem plus_ok (s v : St) : (plus s v).ok := ⟨add32_lt _ _, add32_lt _ _, add32_lt _ _, add32_lt _ _, add32_lt _ _, add32_lt _ _, add32_lt _ _, add32_lt _ _⟩
theorem comp_ok (s : St) (b : Nat → Nat) : (comp s b).ok := plus_ok _ _
theorem blk_ok (m : List Nat) : ∀ j, (blk m j).ok
  | 0 => init_ok
  | _ + 1 => comp_ok _ _
theorem l_lt {s : St} (h : s.ok) (i : Nat) : s.l.getD i 0 < 4294967296 := by
  obtain ⟨h1, h2, h3, h4, h5, h6, h7, h8⟩ := h
  match i with
  | 0 => exact h1
  | 1 => exact h2
  | 2 => exact h3
  | 3 => exact h4
  | 4 => exact h5
  | 5 => exact h6
  | 6 => exact h7
  | 7 => exact h8
  | n + 8 => show (0 : Nat) < _; decide
theorem l_len (s : St) : s.l.length = 8 := rfl
theorem word_lt (b : Nat → Nat) (hb : ∀ i, b i < 256) (i : Nat) : word b i < 4294967296 := by
  have := hb (4 * i); have := hb (4 * i + 1); have := hb (4 * i + 2); have := hb (4 * i + 3)
  unfold word; omega
theorem sched_len (b : Nat → Nat) : ∀ n, (sched b n).length = n + 16
  | 0 => by simp [sched]
  | n + 1 => by rw [sched, List.length_append, sched_len b n, List.length_singleton]
theorem sched_lt (b : Nat → Nat) (hb : ∀ i, b i < 256) : ∀ n x, x ∈ sched b n → x < 4294967296
  | 0, x, h => by obtain ⟨i, _, rfl⟩ := List.mem_map.1 h; exact word_lt b hb i
  | n + 1, x, h => by
    rw [sched, List.mem_append] at h
    rcases h with h | h
    · exact sched_lt b hb n x h
    · obtain rfl := List.mem_singleton.1 h; exact Nat.mod_lt _ (by decide)
theorem getD_of_mem {l : List Nat} {p : Nat → Prop} (h : ∀ x ∈ l, p x) (h0 : p 0) (i : Nat) : p (l.getD i 0) := by
  rw [List.getD_eq_getElem?_getD]
  cases e : l[i]? with
  | none => exact h0
  | some x => exact h x (List.mem_of_getElem? e)
theorem sched_get_lt (b : Nat → Nat) (hb : ∀ i, b i < 256) (n i : Nat) : (sched b n).getD i 0 < 4294967296 := getD_of_mem (p := fun x => x < 4294967296) (sched_lt b hb n) (by decide) i
theorem K_lt (i : Nat) : K.getD i 0 < 4294967296 := getD_of_mem (p := fun x => x < 4294967296) (by decide) (by decide) i
theorem K_len : K.length = 64 := by decide

/-! ### what hangs on what -/
theorem word_congr {b b' : Nat → Nat} (h : ∀ i, i < 64 → b i = b' i) (i : Nat) (hi : i < 16) : word b i = word b' i := by
  unfold word
  rw [h _ (by omega), h _ (by omega), h _ (by omega), h _ (by omega)]
theorem sched_congr {b b' : Nat → Nat} (h : ∀ i, i < 64 → b i = b' i) : ∀ n, sched b n = sched b' n
  | 0 => by unfold sched; exact List.map_congr_left fun i hi => word_congr h i (List.mem_range.1 hi)
  | n + 1 => by rw [sched, sched, sched_congr h n]
theorem comp_congr (s : St) {b b' : Nat → Nat} (h : ∀ i, i < 64 → b i = b' i) : comp s b = comp s b' := by
  unfold comp; rw [sched_congr h]
theorem blk_congr {m m' : List Nat} : ∀ j, (∀ i, i < 64 * j → m.getD i 0 = m'.getD i 0) → blk m j = blk m' j
  | 0, _ => rfl
  | j + 1, h => by
    rw [blk, blk, blk_congr j (fun i hi => h i (by omega))]
    exact comp_congr _ fun i hi => h _ (by omega)
theorem pad_len_le (n : Nat) : (pad n).length ≤ 72 := by
  simp [pad, be8]; omega
theorem out_lt (s : St) (i : Nat) : out s i < 256 := Nat.mod_lt _ (by decide)
theorem D_len (l : List Nat) : (D l).length = 32 := by simp [D]
theorem D_oct (l : List Nat) : ∀ x ∈ D l, x < 256 := by
  intro x hx
  obtain ⟨i, _, rfl⟩ := List.mem_map.1 hx
  exact out_lt _ _
end Go.Proofs.YtmbglggodifboaaDoor.Sh.Mt
namespace Go.Proofs.YtmbglggodifboaaDoor.Sh
open Go.RowKit Math Mt
set_option linter.unusedVariables false
theorem encOk {p : Vt} (h : encE p = 0) : chkV p 1 = 0 ∧ encB p = encV p ∧ (encV p).length ≤ 65536 := by
  by_cases h1 : chkV p 1 = 0
  · by_cases h2 : 65536 < (encV p).length
    · have := (encE_long h1 h2).1
      omega
    · exact ⟨h1, (encE_yes h1 h2).2, by omega⟩
  · have := (encE_no h1).1
    omega
/-- Two values have the same bytes just if they are one. -/
theorem encOf {p : Vt} (ep : encE p = 0) : Oct (encB p) ∧ (encB p).length ≤ 65536 := by
  obtain ⟨a1, a2, a3⟩ := encOk ep
  rw [a2]
  exact ⟨encV_oct p (chk1 a1), a3⟩
/-- An entry. -/
structure En where
  k : Int
  t : ByteArray
  tb : Int
  dc : Int
  vr : Int
  v : Vt
  h : List Nat
  g : Bool
  ab : Int
  ae : Int
/-- A block. -/
structure Bk where
  ix : Int
  tm : Int
  tx : Int
  pv : List Nat
  es : List En
def zr : List Nat := List.replicate 32 0
/-- Nothing. -/
def nv : Vt := lf 0 0 0 em
def I64 (n : Int) : Prop := -9223372036854775808 ≤ n ∧ n < 9223372036854775808
/-- A digest. -/
def H32 (l : List Nat) : Prop := l.length = 32 ∧ Oct l
/-- What an entry of the language can be. -/
structure EnW (e : En) : Prop where
  k : I64 e.k
  t : e.t.size ≤ 140737488355328
  tb : I64 e.tb
  dc : I64 e.dc
  vr : I64 e.vr
  v : WfV e.v
  h : H32 e.h
  ab : I64 e.ab
  ae : I64 e.ae
structure BkW (b : Bk) : Prop where
  ix : I64 b.ix
  tm : I64 b.tm
  tx : I64 b.tx
  pv : H32 b.pv
  es : ∀ e ∈ b.es, EnW e
  len : b.es.length ≤ 140737488355328
abbrev inP (n lo hi : Int) : Prop := lo ≤ n ∧ n ≤ hi
def nvB (p : Vt) : Bool := decide (p.1.k = 0 ∧ p.1.n = 0 ∧ p.1.s = 0 ∧ p.1.t.size = 0 ∧ p.1.ns.length = 0 ∧ p.2.list.length = 0)
theorem nvB_iff (p : Vt) : nvB p = true ↔ p = nv := by
  unfold nvB
  rw [decide_eq_true_iff]
  constructor
  · rintro ⟨h1, h2, h3, h4, h5, h6⟩
    have e : p.1.t.data.toList = [] := List.eq_nil_of_length_eq_zero (by simpa using h4)
    have e2 : p.1.t.data = #[] := by rw [← Array.toList_inj]; exact e
    have e3 : p.1.t = ⟨#[]⟩ := by cases h : p.1.t with | mk d => rw [h] at e2; rw [← e2]
    exact vt_eq h1 h2 h3 (e3.trans rfl) (List.eq_nil_of_length_eq_zero h5) (fo_nil h6)
  · rintro rfl
    exact ⟨rfl, rfl, rfl, rfl, rfl, rfl⟩
/-- What the numbers of an entry may be: those of Text's length, Table, Doc, Version, At. -/
structure Sp where
  t0 : Int := 0
  t1 : Int := 0
  b0 : Int := 0
  b1 : Int := 0
  d0 : Int := 0
  d1 : Int := 0
  v0 : Int := 0
  v1 : Int := 0
  a0 : Int := 0
  a1 : Int := 0
def spn (k : Int) : Option Sp :=
  if k = 1 then some { t0 := 1, t1 := 4096 }
  else if k = 2 then some { b0 := 1, b1 := 64, d0 := 1, d1 := 65536, v1 := 2147483648 }
  else if k = 3 then some { b0 := 1, b1 := 64, d0 := 1, d1 := 65536, v0 := 1, v1 := 2147483648 }
  else if k = 4 then some { a1 := 2147483648 }
  else if k = 5 ∨ k = 7 then some { t0 := 1, t1 := 40, b0 := 1, b1 := 64 }
  else if k = 6 then some { b0 := 1, b1 := 64 }
  else none
structure Fit (s : Sp) (e : En) : Prop where
  t : inP (e.t.size : Int) s.t0 s.t1
  tb : inP e.tb s.b0 s.b1
  dc : inP e.dc s.d0 s.d1
  vr : inP e.vr s.v0 s.v1
  ab : inP e.ab s.a0 s.a1
  ae : inP e.ae s.a0 s.a1
def fitB (s : Sp) (e : En) : Bool := decide (inP (e.t.size : Int) s.t0 s.t1) && decide (inP e.tb s.b0 s.b1) && decide (inP e.dc s.d0 s.d1) && decide (inP e.vr s.v0 s.v1) && decide (inP e.ab s.a0 s.a1) && decide (inP e.ae s.a0 s.a1)
theorem fitB_iff {s : Sp} {e : En} : fitB s e = true ↔ Fit s e := by
  unfold fitB
  simp only [Bool.and_eq_true, decide_eq_true_iff]
  exact ⟨fun ⟨⟨⟨⟨⟨h1, h2⟩, h3⟩, h4⟩, h5⟩, h6⟩ => ⟨h1, h2, h3, h4, h5, h6⟩, fun h => ⟨⟨⟨⟨⟨h.t, h.tb⟩, h.dc⟩, h.vr⟩, h.ab⟩, h.ae⟩⟩
/-- Is it one, whatever the Data and the DataHash of a Revision are? -/
def restB (e : En) : Bool := if e.k = 2 then !e.g || nvB e.v else !e.g && nvB e.v && decide (e.h = zr)
def formB (e : En) : Bool := match spn e.k with
  | none => false
  | some s => fitB s e && restB e
abbrev Form (e : En) : Prop := formB e = true
theorem form_iff {e : En} : Form e ↔ ∃ s, spn e.k = some s ∧ Fit s e ∧ restB e = true := by
  unfold Form formB
  cases h : spn e.k with
  | none => simp
  | some s => simp [fitB_iff]
def hshV (p : Vt) : List Nat := D (0 :: encB p)
/-- An entry's error. -/
def mayE (e : En) : Int := if ¬ Form e then 3 else if e.k ≠ 2 ∨ e.g = true then 0 else if encE e.v ≠ 0 then encE e.v else if hshV e.v ≠ e.h then 18 else 0
def fstE : List En → Int
  | [] => 0
  | e :: r => if mayE e ≠ 0 then mayE e else fstE r
def uvI (n : Int) : List Nat := uv n.toNat
/-- An entry's bytes. -/
def entB (e : En) : List Nat := [e.k.toNat] ++ uvI e.tb ++ uvI e.dc ++ uvI e.vr ++ uv e.t.size ++ bts e.t ++ uvI e.ab ++ uvI e.ae ++ (if e.k = 2 then e.h else [])
/-- The bytes of its Data, if it has any. -/
def datL (e : En) : List Nat := if e.k = 2 ∧ e.g = false then encB e.v else []
/-- What stands behind an entry's bytes. -/
def tail (k : Int) (dl : List Nat) (data : Bool) : List Nat := if k = 2 then (if data = false ∨ dl = [] then [0] else [1] ++ uv dl.length ++ dl) else []
def itmB (data : Bool) (e : En) : List Nat := entB e ++ tail e.k (datL e) data
def hedB (b : Bk) : List Nat := uvI b.ix ++ uvI b.tm ++ uvI b.tx ++ b.pv
def blkB (b : Bk) (data : Bool) : List Nat := hedB b ++ uv b.es.length ++ b.es.flatMap (itmB data)
abbrev HeadP (b : Bk) (n : Int) : Prop := inP b.ix 0 2147483648 ∧ inP b.tm 0 9007199254740992 ∧ inP b.tx 0 9007199254740992 ∧ inP n 1 200
/-- A block's error. -/
def chkB (b : Bk) : Int := if ¬ HeadP b (b.es.length : Int) then 1 else if fstE b.es ≠ 0 then fstE b.es else if 262144 < (blkB b true).length then 5 else 0
theorem may_form {e : En} (h : mayE e = 0) : Form e := by
  unfold mayE at h
  by_cases c : Form e
  · exact c
  · rw [if_pos c] at h; cases h
theorem may_data {e : En} (h : mayE e = 0) (hk : e.k = 2) (hg : e.g = false) : encE e.v = 0 ∧ hshV e.v = e.h := by
  have hf := may_form h
  unfold mayE at h
  rw [if_neg (by simpa using hf), if_neg (by rw [hk, hg]; simp)] at h
  by_cases c : encE e.v = 0
  · rw [if_neg (by simpa using c)] at h
    by_cases d : hshV e.v = e.h
    · exact ⟨c, d⟩
    · rw [if_pos d] at h; cases h
  · rw [if_pos c] at h; exact absurd h c
theorem may_no {e : En} (h : ¬ Form e) : mayE e = 3 := by unfold mayE; rw [if_pos h]
theorem may_plain {e : En} (h : Form e) (hk : e.k ≠ 2 ∨ e.g = true) : mayE e = 0 := by unfold mayE; rw [if_neg (by simpa using h), if_pos hk]
theorem may_enc {e : En} (h : Form e) (hk : e.k = 2) (hg : e.g = false) (c : encE e.v ≠ 0) : mayE e = encE e.v := by unfold mayE; rw [if_neg (by simpa using h), if_neg (by rw [hk, hg]; simp), if_pos c]
theorem may_hash {e : En} (h : Form e) (hk : e.k = 2) (hg : e.g = false) (c : encE e.v = 0) (d : hshV e.v ≠ e.h) : mayE e = 18 := by unfold mayE; rw [if_neg (by simpa using h), if_neg (by rw [hk, hg]; simp), if_neg (by simpa using c), if_pos d]
theorem may_yes {e : En} (h : Form e) (hk : e.k = 2) (hg : e.g = false) (c : encE e.v = 0) (d : hshV e.v = e.h) : mayE e = 0 := by unfold mayE; rw [if_neg (by simpa using h), if_neg (by rw [hk, hg]; simp), if_neg (by simpa using c), if_neg (by simpa using d)]
theorem fst_all : ∀ {l : List En}, fstE l = 0 → ∀ e ∈ l, mayE e = 0
  | e :: r, h, x, hx => by
    unfold fstE at h
    by_cases c : mayE e = 0
    · rw [if_neg (by simpa using c)] at h
      rcases List.mem_cons.1 hx with rfl | hx
      · exact c
      · exact fst_all h x hx
    · rw [if_pos c] at h; exact absurd h c
theorem fst_snoc {e : En} : ∀ {l : List En}, fstE l = 0 → fstE (l ++ [e]) = mayE e
  | [], _ => by
    show (if mayE e ≠ 0 then mayE e else 0) = mayE e
    by_cases c : mayE e = 0
    · rw [if_neg (by simpa using c), c]
    · rw [if_pos c]
  | x :: r, h => by
    have hx := fst_all h x (by simp)
    have hr : fstE r = 0 := by unfold fstE at h; rw [if_neg (by simpa using hx)] at h; exact h
    show (if mayE x ≠ 0 then mayE x else fstE (r ++ [e])) = _
    rw [if_neg (by simpa using hx), fst_snoc hr]
theorem fst_app {m : List En} : ∀ {l : List En}, fstE l = 0 → fstE (l ++ m) = fstE m
  | [], _ => rfl
  | x :: r, h => by
    have hx := fst_all h x (by simp)
    have hr : fstE r = 0 := by unfold fstE at h; rw [if_neg (by simpa using hx)] at h; exact h
    show (if mayE x ≠ 0 then mayE x else fstE (r ++ m)) = _
    rw [if_neg (by simpa using hx), fst_app hr]
theorem fst_left {m : List En} : ∀ {l : List En}, fstE l ≠ 0 → fstE (l ++ m) = fstE l
  | [], h => absurd rfl h
  | x :: r, h => by
    show (if mayE x ≠ 0 then mayE x else fstE (r ++ m)) = if mayE x ≠ 0 then mayE x else fstE r
    by_cases c : mayE x = 0
    · rw [if_neg (by simpa using c), if_neg (by simpa using c)]
      refine fst_left fun h0 => h ?_
      unfold fstE; rw [if_neg (by simpa using c), h0]
    · rw [if_pos c, if_pos c]
theorem chk_zero {b : Bk} (h : chkB b = 0) : HeadP b (b.es.length : Int) ∧ fstE b.es = 0 ∧ (blkB b true).length ≤ 262144 := by
  unfold chkB at h
  by_cases c : HeadP b (b.es.length : Int)
  · rw [if_neg (fun q => q c)] at h
    by_cases d : fstE b.es = 0
    · rw [if_neg (by simpa using d)] at h
      by_cases e : 262144 < (blkB b true).length
      · rw [if_pos e] at h; cases h
      · exact ⟨c, d, by omega⟩
    · rw [if_pos d] at h; exact absurd h d
  · rw [if_pos c] at h; cases h
theorem chk_head {b : Bk} (h : ¬ HeadP b (b.es.length : Int)) : chkB b = 1 := by unfold chkB; rw [if_pos h]
theorem chk_may {b : Bk} (h : HeadP b (b.es.length : Int)) (d : fstE b.es ≠ 0) : chkB b = fstE b.es := by unfold chkB; rw [if_neg (fun q => q h), if_pos d]
theorem chk_long {b : Bk} (h : HeadP b (b.es.length : Int)) (d : fstE b.es = 0) (c : 262144 < (blkB b true).length) : chkB b = 5 := by unfold chkB; rw [if_neg (fun q => q h), if_neg (by simpa using d), if_pos c]
theorem chk_yes {b : Bk} (h : HeadP b (b.es.length : Int)) (d : fstE b.es = 0) (c : ¬ 262144 < (blkB b true).length) : chkB b = 0 := by unfold chkB; rw [if_neg (fun q => q h), if_neg (by simpa using d), if_neg c]
/-- What Form says of the numbers. -/
structure Num (e : En) : Prop where
  k : 1 ≤ e.k ∧ e.k ≤ 7
  t : e.t.size ≤ 4096
  tb : 0 ≤ e.tb ∧ e.tb ≤ 64
  dc : 0 ≤ e.dc ∧ e.dc ≤ 65536
  vr : 0 ≤ e.vr ∧ e.vr ≤ 2147483648
  ab : 0 ≤ e.ab ∧ e.ab ≤ 2147483648
  ae : 0 ≤ e.ae ∧ e.ae ≤ 2147483648
theorem Form.num {e : En} (h : Form e) : Num e := by
  obtain ⟨s, hs, f, _⟩ := form_iff.1 h
  have f1 := f.t; have f2 := f.tb; have f3 := f.dc; have f4 := f.vr; have f5 := f.ab; have f6 := f.ae
  unfold inP at f1 f2 f3 f4 f5 f6
  unfold spn at hs
  split at hs
  · cases hs; simp only at f1 f2 f3 f4 f5 f6; exact ⟨by omega, by omega, by omega, by omega, by omega, by omega, by omega⟩
  split at hs
  · cases hs; simp only at f1 f2 f3 f4 f5 f6; exact ⟨by omega, by omega, by omega, by omega, by omega, by omega, by omega⟩
  split at hs
  · cases hs; simp only at f1 f2 f3 f4 f5 f6; exact ⟨by omega, by omega, by omega, by omega, by omega, by omega, by omega⟩
  split at hs
  · cases hs; simp only at f1 f2 f3 f4 f5 f6; exact ⟨by omega, by omega, by omega, by omega, by omega, by omega, by omega⟩
  split at hs
  · cases hs; simp only at f1 f2 f3 f4 f5 f6; exact ⟨by omega, by omega, by omega, by omega, by omega, by omega, by omega⟩
  split at hs
  · cases hs; simp only at f1 f2 f3 f4 f5 f6; exact ⟨by omega, by omega, by omega, by omega, by omega, by omega, by omega⟩
  · cases hs
theorem uvI_len {n : Int} (h : n ≤ 9223372036854775807) : (uvI n).length ≤ 10 := uv_ten _ (by omega)
theorem uvI_oct (n : Int) : Oct (uvI n) := uv_oct _
theorem ent_len {e : En} (hw : EnW e) (h : Num e) : (entB e).length ≤ 4096 + 100 := by
  have a1 := uvI_len (n := e.tb) (by have := h.tb; omega)
  have a2 := uvI_len (n := e.dc) (by have := h.dc; omega)
  have a3 := uvI_len (n := e.vr) (by have := h.vr; omega)
  have a4 := uvI_len (n := e.ab) (by have := h.ab; omega)
  have a5 := uvI_len (n := e.ae) (by have := h.ae; omega)
  have a6 := uv_ten e.t.size (by have := h.t; omega)
  have a7 := h.t
  have a8 := hw.h.1
  have a9 : (if e.k = 2 then e.h else []).length ≤ 32 := by split <;> simp [a8]
  unfold entB
  simp only [List.length_append, bts_len, List.length_cons, List.length_nil]
  omega
theorem ent_oct {e : En} (hw : EnW e) (h : Num e) : Oct (entB e) := by
  have hk := h.k
  unfold entB
  refine ((((((((one_oct (by omega)).app (uvI_oct _)).app (uvI_oct _)).app (uvI_oct _)).app (uv_oct _)).app (bts_oct _)).app (uvI_oct _)).app (uvI_oct _)).app ?_
  split
  · exact hw.h.2
  · intro x hx; cases hx
theorem dat_ok {e : En} (h : mayE e = 0) : Oct (datL e) ∧ (datL e).length ≤ 65536 ∧ (e.k = 2 → e.g = false → datL e = encV e.v ∧ datL e ≠ []) ∧ (e.k ≠ 2 ∨ e.g = true → datL e = []) := by
  by_cases c : e.k = 2 ∧ e.g = false
  · obtain ⟨h1, h2⟩ := may_data h c.1 c.2
    obtain ⟨q1, q2⟩ := encOf h1
    have e1 : datL e = encB e.v := by unfold datL; rw [if_pos c]
    have e2 := (encOk h1).2.1
    rw [e1]
    refine ⟨q1, q2, fun _ _ => ⟨e2, ?_⟩, fun h => ?_⟩
    · rw [e2]; unfold encV headB; simp
    · rcases h with h | h
      · exact absurd c.1 h
      · rw [c.2] at h; cases h
  · have e1 : datL e = [] := by unfold datL; rw [if_neg c]
    rw [e1]
    exact ⟨(fun x hx => by cases hx), by simp, fun h1 h2 => absurd ⟨h1, h2⟩ c, fun _ => rfl⟩
theorem tail_oct {k : Int} {dl : List Nat} (h : Oct dl) (d : Bool) : Oct (tail k dl d) := by
  unfold tail
  split
  · split
    · exact one_oct (by omega)
    · exact ((one_oct (by omega)).app (uv_oct _)).app h
  · intro x hx; cases hx
theorem tail_len {k : Int} {dl : List Nat} (h : dl.length ≤ 65536) (d : Bool) : (tail k dl d).length ≤ 65536 + 20 := by
  have := uv_ten dl.length (by omega)
  unfold tail
  split
  · split
    · simp
    · simp only [List.length_append, List.length_cons, List.length_nil]; omega
  · simp
theorem itm_oct {e : En} (hw : EnW e) (h : mayE e = 0) (d : Bool) : Oct (itmB d e) := (ent_oct hw (may_form h).num).app (tail_oct (dat_ok h).1 d)
theorem itm_len {e : En} (hw : EnW e) (h : mayE e = 0) (d : Bool) : (itmB d e).length ≤ 70000 := by
  have a := ent_len hw (may_form h).num
  have b := tail_len (k := e.k) (dat_ok h).2.1 d
  unfold itmB
  rw [List.length_append]
  omega
theorem itms_len (d : Bool) : ∀ {l : List En}, (∀ e ∈ l, EnW e) → (∀ e ∈ l, mayE e = 0) → (l.flatMap (itmB d)).length ≤ 70000 * l.length
  | [], _, _ => by simp
  | e :: r, h1, h2 => by
    have a := itm_len (h1 e (by simp)) (h2 e (by simp)) d
    have b := itms_len d (l := r) (fun x hx => h1 x (by simp [hx])) (fun x hx => h2 x (by simp [hx]))
    simp only [List.flatMap_cons, List.length_append, List.length_cons]
    omega
theorem itms_oct (d : Bool) : ∀ {l : List En}, (∀ e ∈ l, EnW e) → (∀ e ∈ l, mayE e = 0) → Oct (l.flatMap (itmB d))
  | [], _, _ => fun x hx => by cases hx
  | e :: r, h1, h2 => by
    simp only [List.flatMap_cons]
    exact (itm_oct (h1 e (by simp)) (h2 e (by simp)) d).app (itms_oct d (l := r) (fun x hx => h1 x (by simp [hx])) (fun x hx => h2 x (by simp [hx])))
theorem hed_len {b : Bk} (h : BkW b) : (hedB b).length ≤ 62 := by
  have a1 := uvI_len (n := b.ix) (by have := h.ix.2; omega)
  have a2 := uvI_len (n := b.tm) (by have := h.tm.2; omega)
  have a3 := uvI_len (n := b.tx) (by have := h.tx.2; omega)
  have a4 := h.pv.1
  unfold hedB
  simp only [List.length_append]
  omega
theorem hed_oct {b : Bk} (h : BkW b) : Oct (hedB b) := (((uvI_oct _).app (uvI_oct _)).app (uvI_oct _)).app h.pv.2
theorem blk_oct {b : Bk} (h : BkW b) (hf : fstE b.es = 0) (d : Bool) : Oct (blkB b d) := ((hed_oct h).app (uv_oct _)).app (itms_oct d h.es (fst_all hf))
end Go.Proofs.YtmbglggodifboaaDoor.Sh
