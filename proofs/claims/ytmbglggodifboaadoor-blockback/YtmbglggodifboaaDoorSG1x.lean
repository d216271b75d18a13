/-
  The contracts of value's hasOnly, isFormed, isNamed. · The contracts of value's isFormed and isNamed. · Plain mathematics of numbers as bytes, of no program: zig and zag, seven digits a byte.
-/
import Derived.Test.YtmbglggodifboaaDoorSVal
import Derived.Laws.BitsAllLaws
import Derived.Laws.DeepNot64
namespace Go.Proofs.YtmbglggodifboaaDoor
open Go.RowKit
set_option linter.unusedVariables false
def only (h : Hd) (kl : Nat) (F : Int) : Bool :=
  (F = 1 || F = 3 || decide (h.n = 0)) && (F = 3 || decide (h.s = 0)) && (F = 4 || h.t.toList.isEmpty) && (F = 24 || decide (h.ns.length = 0)) && (F = 16 || F = 24 || decide (kl = 0))
def vl (h : Hd) (na : Option Addr) (nc : Nat) (ka : Option Addr) (kl kc : Nat) : Value :=
  .agg #[.int .i64 h.k, .int .i64 h.n, .int .i64 h.s, .string h.t, .slice na h.ns.length nc, .slice ka kl kc]
set_option maxRecDepth 8000 in
set_option maxHeartbeats 2000000 in
theorem only_any (h : Hd) (na : Option Addr) (nc : Nat) (ka : Option Addr) (kl kc : Nat) (F : Int) (hF : F = 0 ∨ F = 1 ∨ F = 3 ∨ F = 4 ∨ F = 16 ∨ F = 24) (w : World) :
    Calls Tryd.prog 84 #[.agg #[.int .i64 h.k, .int .i64 h.n, .int .i64 h.s, .string h.t, .slice na h.ns.length nc, .slice ka kl kc], .int .u64 F] w fun e w' => e = .returned (.bool (only h kl F)) ∧ Below w.heap.size w w' := by
  have HF : Hid _ := hF
  clear hF
  go_enter Tryd.func84, Tryd.ntmps84
  go_wp2
  all_goals
    go_ret
    refine ⟨?_, (Below.refl _ _).alloc (Nat.le_refl _) _⟩
    unfold only
    cases hte : h.t.toList.isEmpty <;> rcases HF.out with rfl | rfl | rfl | rfl | rfl | rfl <;> simp_all <;> decide
end Go.Proofs.YtmbglggodifboaaDoor
namespace Go.Proofs.YtmbglggodifboaaDoor
open Go.RowKit
set_option linter.unusedVariables false
theorem box_get {w w' : World} (vs : List Value) (t : TypeId) (hb : Below (w.alloc (.cells vs.toArray t)).heap.size (w.alloc (.cells vs.toArray t)) w') (j : Nat) (v : Value) (hv : vs[j]? = some v) : w'.cell? ⟨w.heap.size, j, none⟩ = some v := by
  rw [hb.cell (p := ⟨w.heap.size, j, none⟩) (by simp), World.cell?_alloc_new, List.getElem?_toArray, hv]
theorem box_below {w w' : World} (o : Obj) (hb : Below (w.alloc o).heap.size (w.alloc o) w') : Below w.heap.size w w' :=
  ((Below.refl _ _).alloc (Nat.le_refl _) _).trans (hb.mono (by simp))
def formed (h : Hd) (kl : Nat) : Bool :=
  if h.k = 1 then only h kl 0
  else if h.k = 2 then only h kl 1 && (h.n == 0 || h.n == 1)
  else if h.k = 3 then only h kl 1
  else if h.k = 4 then only h kl 3 && decide (1 ≤ h.s) && decide (h.s ≤ 18) && (h.n.tmod 10 != 0)
  else if h.k = 5 then only h kl 1 && decide (0 ≤ h.n) && decide (h.n ≤ 9007199254740992)
  else if h.k = 6 then only h kl 4
  else if h.k = 7 then only h kl 4
  else if h.k = 8 then only h kl 16
  else if h.k = 9 then only h kl 24
  else false
set_option maxRecDepth 8000 in
set_option maxHeartbeats 2000000 in
theorem formed_any (h : Hd) (na : Option Addr) (nc : Nat) (ka : Option Addr) (kl kc : Nat) (w : World) :
    Calls Tryd.prog 80 #[.agg #[.int .i64 h.k, .int .i64 h.n, .int .i64 h.s, .string h.t, .slice na h.ns.length nc, .slice ka kl kc]] w fun e w' => e = .returned (.bool (formed h kl)) ∧ Below w.heap.size w w' := by
  go_enter Tryd.func80, Tryd.ntmps80
  go_wp2_with (go_at_call 84; go_must (refine (only_any h na nc ka kl kc _ (by simp) _).mono ?_; rintro e w' ⟨rfl, hb⟩; have c1 := box_get (six h na nc ka kl kc) 39 hb 1 _ rfl; have c2 := box_get (six h na nc ka kl kc) 39 hb 2 _ rfl; have HB : Hid (Below w.heap.size w w') := box_below _ hb; clear hb))
  all_goals
    go_ret
    refine ⟨?_, by first | exact HB.out | exact (Below.refl _ _).alloc (Nat.le_refl _) _⟩
    simp_all [formed] <;> (intros; omega)
def rises : ByteArray → List ByteArray → Bool
  | _, [] => true
  | l, x :: r => !(Op.bytesLess x.toList l.toList || x.toList == l.toList) && !(decide (40 < x.size)) && rises x r
def named (ns : List ByteArray) (kl : Nat) : Bool := decide (ns.length = kl) && rises ⟨#[]⟩ ns
set_option maxRecDepth 8000 in
set_option maxHeartbeats 2000000 in
theorem named_any (h : Hd) (na : Option Addr) (nc : Nat) (ka : Option Addr) (kl kc : Nat) (w : World) (hn : Nms w na h.ns) (hl : h.ns.length ≤ 140737488355328) (he : ∀ x ∈ h.ns, x.size ≤ 140737488355328) :
    Calls Tryd.prog 81 #[.agg #[.int .i64 h.k, .int .i64 h.n, .int .i64 h.s, .string h.t, .slice na h.ns.length nc, .slice ka kl kc]] w fun e w' => e = .returned (.bool (named h.ns kl)) ∧ Below w.heap.size w w' := by
  have HN : Hid (Nms w na h.ns) := hn
  clear hn
  go_enter Tryd.func81, Tryd.ntmps81
  by_cases hE : h.ns.length = kl
  case neg =>
    have hd : ((h.ns.length : Int) != (kl : Int)) = true := by simp; omega
    go_wp2
    go_ret
    exact ⟨by simp [named, hE], (Below.refl _ _).alloc (Nat.le_refl _) _⟩
  subst hE
  go_wp2
  have HN1 : Hid (Nms (w.alloc (.cells #[.int .i64 h.k, .int .i64 h.n, .int .i64 h.s, .string h.t, .slice na h.ns.length nc, .slice ka h.ns.length kc] 39)) na h.ns) := HN.out.below ((Below.refl _ _).alloc (Nat.le_refl _) _)
  have HB : Hid (Below w.heap.size w (w.alloc (.cells #[.int .i64 h.k, .int .i64 h.n, .int .i64 h.s, .string h.t, .slice na h.ns.length nc, .slice ka h.ns.length kc] 39))) := (Below.refl _ _).alloc (Nat.le_refl _) _
  generalize w.alloc (.cells #[.int .i64 h.k, .int .i64 h.n, .int .i64 h.s, .string h.t, .slice na h.ns.length nc, .slice ka h.ns.length kc] 39) = w1 at *
  go_loopw [3, 5, 16] (fun l x i wr => ∃ k : Nat, k ≤ h.ns.length ∧ i = .int .i64 (k : Int) ∧ ∃ last, l = .string last ∧ wr = w1 ∧ Hid (named h.ns h.ns.length = rises last (h.ns.drop k))) (fun _ _ i _ => h.ns.length - (intOf i).toNat)
  case atStart => exact ⟨0, by omega, rfl, _, rfl, rfl, by show _ = _; simp [named]⟩
  case round =>
    obtain ⟨k, hk, rfl, last, rfl, rfl, HR⟩ := hrel
    by_cases hlt : k < h.ns.length
    case neg =>
      go_wp2
      go_ret
      exact ⟨by rw [HR.out, List.drop_of_length_le (by omega)]; rfl, HB.out⟩
    obtain ⟨x, hx⟩ : ∃ x, h.ns[k]? = some x := ⟨_, List.getElem?_eq_getElem hlt⟩
    have hxs : x.size ≤ 140737488355328 := he x (List.mem_of_getElem? hx)
    have HD : Hid (h.ns.drop k = x :: h.ns.drop (k + 1)) := by
      have := List.drop_eq_getElem_cons hlt
      rw [List.getElem?_eq_getElem hlt] at hx
      show _ = _
      rw [this, Option.some.inj hx]
    rcases HN1.out with e | ⟨b, o, rfl, hc⟩
    · simp [e] at hlt
    have c := hc k x hx
    clear hc hx
    cases hA : Op.bytesLess x.toList last.toList <;> cases hB : (x.toList == last.toList) <;> by_cases hC : 40 < x.size
    rotate_left
    · go_wp2
      go_roundw
      case rel =>
        refine ⟨k + 1, by omega, by go_num, x, rfl, trivial, ?_⟩
        show _ = _
        rw [HR.out, HD.out]
        simp [rises, hA, hB, hC]
      case measure => simp [intOf]; omega
    all_goals
      go_wp2
      go_ret
      exact ⟨by rw [HR.out, HD.out]; simp [rises, hA, hB, hC], HB.out⟩
def own (h : Hd) (kl : Nat) : Int := if formed h kl = true then (if 16384 < h.t.size ∨ 200 < kl then 5 else if h.k = 9 ∧ named h.ns kl = false then 3 else 0) else 3
/-- The first error of values that stand so deep. -/
def chk : Fo → Int → Int
  | .nil, _ => 0
  | .cons h k r, d => if (if 16 < d then 9 else if own h k.list.length ≠ 0 then own h k.list.length else chk k (d + 1)) ≠ 0 then (if 16 < d then 9 else if own h k.list.length ≠ 0 then own h k.list.length else chk k (d + 1)) else chk r d
def chkV (p : Vt) (d : Int) : Int := if 16 < d then 9 else if own p.1 p.2.list.length ≠ 0 then own p.1 p.2.list.length else chk p.2 (d + 1)
theorem chk_cons (p : Vt) (r : Fo) (d : Int) : chk (.cons p.1 p.2 r) d = if chkV p d ≠ 0 then chkV p d else chk r d := rfl
def Fo.drop : Nat → Fo → Fo
  | 0, f => f
  | _ + 1, .nil => .nil
  | n + 1, .cons _ _ r => Fo.drop n r
theorem Fo.drop_at : ∀ (f : Fo) (i : Nat) (p : Vt), f.list[i]? = some p → f.drop i = .cons p.1 p.2 (f.drop (i + 1))
  | .nil, i, p, h => by simp [Fo.list] at h
  | .cons hd k r, 0, p, h => by
    simp only [Fo.list, List.getElem?_cons_zero, Option.some.injEq] at h
    subst h
    cases r <;> rfl
  | .cons hd k r, i + 1, p, h => by
    simp only [Fo.list, List.getElem?_cons_succ] at h
    have := Fo.drop_at r i p h
    simp only [Fo.drop]
    exact this
theorem Fo.drop_end : ∀ (f : Fo) (i : Nat), f.list.length ≤ i → f.drop i = .nil
  | .nil, 0, _ => rfl
  | .nil, i + 1, _ => rfl
  | .cons hd k r, 0, h => by simp [Fo.list] at h
  | .cons hd k r, i + 1, h => Fo.drop_end r i (by simpa [Fo.list] using h)
end Go.Proofs.YtmbglggodifboaaDoor
namespace Go.Proofs.YtmbglggodifboaaDoor.Math

/-! ### zig and zag -/
def zigS (v : Int) : Int := if 0 ≤ v then 2 * v else 2 * -(v + 1) + 1
def zagS (u : Int) : Int := if u % 2 = 0 then u / 2 else -(u / 2) - 1
theorem zag_zig (v : Int) : zagS (zigS v) = v := by
  unfold zagS zigS; split <;> split <;> omega
theorem zig_zag (u : Int) (h : 0 ≤ u) : zigS (zagS u) = u := by
  unfold zagS zigS; split <;> split <;> omega
theorem zig_bd (v : Int) (h1 : -9223372036854775808 ≤ v) (h2 : v ≤ 9223372036854775807) : 0 ≤ zigS v ∧ zigS v ≤ 18446744073709551615 := by
  unfold zigS; split <;> omega
theorem zag_bd (u : Int) (h1 : 0 ≤ u) (h2 : u ≤ 18446744073709551615) : -9223372036854775808 ≤ zagS u ∧ zagS u ≤ 9223372036854775807 := by
  unfold zagS; split <;> omega
theorem xor_ones (a : Nat) (ha : a < 18446744073709551616) : a ^^^ 18446744073709551615 = 18446744073709551615 - a := by
  have h : (BitVec.ofNat 64 a ^^^ BitVec.allOnes 64).toNat = (~~~ (BitVec.ofNat 64 a)).toNat := by rw [BitVec.xor_allOnes]
  rw [BitVec.toNat_xor, BitVec.toNat_not, BitVec.toNat_ofNat, BitVec.toNat_allOnes, Nat.mod_eq_of_lt (by omega)] at h
  simpa using h
theorem zig_bits (v : Int) (h1 : -9223372036854775808 ≤ v) (h2 : v ≤ 9223372036854775807) :
    bits .xor .u64 (IntKind.u64.wrap (IntKind.u64.wrap v * 2)) (IntKind.u64.wrap (v / 9223372036854775808)) = zigS v := by
  simp only [IntKind.wrap_u64]
  unfold zigS
  by_cases h : 0 ≤ v
  · rw [if_pos h, show v / 9223372036854775808 = 0 by omega]
    rw [u64_xor _ _ (by omega) (by omega) (by omega) (by omega)]
    simp
    omega
  · rw [if_neg h, show v / 9223372036854775808 = -1 by omega]
    rw [u64_xor _ _ (by omega) (by omega) (by omega) (by omega)]
    rw [show ((-1 : Int) % 18446744073709551616).toNat = 18446744073709551615 by decide, xor_ones _ (by omega)]
    omega
theorem zag_bits (u : Int) (h1 : 0 ≤ u) (h2 : u ≤ 18446744073709551615) :
    bits .xor .i64 (u / 2) (IntKind.i64.wrap (-IntKind.i64.wrap (bits .and .u64 u 1))) = zagS u := by
  obtain ⟨a, rfl⟩ := Int.eq_ofNat_of_zero_le h1
  have e1 : bits .and .u64 (a : Int) 1 = ((a % 2 : Nat) : Int) := by
    have := u64_and_nat a 1 (by omega) (by omega)
    rw [nat_mask1] at this
    exact this
  rw [e1]
  unfold zagS
  have h64 : ∀ b c : Int, bits .xor .i64 b c = IntKind.i64.wrap ((BitVec.ofInt 64 b ^^^ BitVec.ofInt 64 c).toNat : Int) := fun _ _ => rfl
  rcases Nat.mod_two_eq_zero_or_one a with h | h
  · rw [if_pos (by omega), h, show IntKind.i64.wrap (-IntKind.i64.wrap ((0 : Nat) : Int)) = 0 by decide]
    rw [h64, show ((a : Int) / 2) = ((a / 2 : Nat) : Int) by omega, BitVec.toNat_xor, ofInt_u64 (a / 2) (by omega)]
    simp [IntKind.wrap, IntKind.bits, IntKind.signed]
    omega
  · rw [if_neg (by omega), h, show IntKind.i64.wrap (-IntKind.i64.wrap ((1 : Nat) : Int)) = -1 by decide]
    have e := i64_not (a / 2) (by omega)
    rw [h64, BitVec.xor_comm, ← h64, show ((a : Int) / 2) = ((a / 2 : Nat) : Int) by omega, e]
    omega

/-! ### seven digits a byte -/
def acc (v x k : Nat) : Nat := v ||| (x % 128 * 2 ^ (7 * k) % 18446744073709551616)
theorem acc_lt (v x k : Nat) (h : v < 18446744073709551616) : acc v x k < 18446744073709551616 :=
  Nat.or_lt_two_pow (n := 64) (by omega) (by omega)
theorem acc_bits (v x k : Nat) (hv : v < 18446744073709551616) (hx : x < 256) :
    bits .or .u64 (v : Int) (IntKind.u64.wrap (IntKind.u64.wrap (bits .and .u8 (x : Int) 127) * 2 ^ (7 * k))) = ((acc v x k : Nat) : Int) := by
  have e1 : bits .and .u8 (x : Int) 127 = ((x % 128 : Nat) : Int) := by
    have := u8_and_nat x 127 hx (by omega); rw [nat_mask7] at this; exact this
  have e2 : IntKind.u64.wrap ((x % 128 : Nat) : Int) = ((x % 128 : Nat) : Int) := by rw [IntKind.wrap_u64]; omega
  have e3 : IntKind.u64.wrap (((x % 128 : Nat) : Int) * 2 ^ (7 * k)) = ((x % 128 * 2 ^ (7 * k) % 18446744073709551616 : Nat) : Int) := by
    have hp : ((2 : Int) ^ (7 * k)) = ((2 ^ (7 * k) : Nat) : Int) := by simp
    rw [hp, ← Int.natCast_mul, IntKind.wrap_u64]
    generalize x % 128 * 2 ^ (7 * k) = m
    omega
  rw [e1, e2, e3, u64_or_nat v _ hv (by omega)]; rfl
def ruv : List Nat → Nat → Nat → Nat × Nat × Nat
  | [], _, _ => (0, 0, 2)
  | x :: l, k, v => if k = 9 ∧ 1 < x then (0, 0, 3) else if 127 < x then ruv l (k + 1) (acc v x k) else if 0 < k ∧ x = 0 then (0, 0, 3) else (acc v x k, k + 1, 0)
theorem drop_get (l : List Nat) (k : Nat) (h : k < l.length) : l.drop k = l.getD k 0 :: l.drop (k + 1) := by
  rw [List.drop_eq_getElem_cons h, List.getD_eq_getElem?_getD, List.getElem?_eq_getElem h]; rfl
theorem ruv_nine (x k v : Nat) (l : List Nat) (h : k = 9) (hx : 1 < x) : ruv (x :: l) k v = (0, 0, 3) := by simp [ruv, h, hx]
theorem ruv_more (x k v : Nat) (l : List Nat) (h : ¬ (k = 9 ∧ 1 < x)) (hx : 127 < x) : ruv (x :: l) k v = ruv l (k + 1) (acc v x k) := by simp [ruv, h, hx]
theorem ruv_zero (x k v : Nat) (l : List Nat) (h : 0 < k) (hx : x = 0) : ruv (x :: l) k v = (0, 0, 3) := by simp [ruv, h, hx]
theorem ruv_end (x k v : Nat) (l : List Nat) (h : ¬ (k = 9 ∧ 1 < x)) (hx : ¬ 127 < x) (h0 : ¬ (0 < k ∧ x = 0)) : ruv (x :: l) k v = (acc v x k, k + 1, 0) := by simp [ruv, h, hx, h0]
/-- A number in seven digits a byte, at most f + 1 of them. -/
def uvF : Nat → Nat → List Nat
  | 0, v => [v]
  | f + 1, v => if v < 128 then [v] else (v % 128 + 128) :: uvF f (v / 128)
theorem uvF_eq : ∀ (f g v : Nat), v ≤ f → v ≤ g → uvF f v = uvF g v
  | 0, 0, _, _, _ => rfl
  | 0, g + 1, v, h, _ => by
    obtain rfl : v = 0 := by omega
    rfl
  | f + 1, 0, v, _, h => by
    obtain rfl : v = 0 := by omega
    rfl
  | f + 1, g + 1, v, h, h' => by
    simp only [uvF]
    by_cases hv : v < 128
    · rw [if_pos hv, if_pos hv]
    · rw [if_neg hv, if_neg hv, uvF_eq f g (v / 128) (by omega) (by omega)]
/-- A number in seven digits a byte. -/
def uv (v : Nat) : List Nat := uvF v v
theorem uv_lo (v : Nat) (h : v < 128) : uv v = [v] := by
  unfold uv
  cases v with
  | zero => rfl
  | succ v => simp only [uvF]; rw [if_pos h]
theorem uv_hi (v : Nat) (h : ¬ v < 128) : uv v = (v % 128 + 128) :: uv (v / 128) := by
  unfold uv
  cases v with
  | zero => omega
  | succ v => simp only [uvF]; rw [if_neg h, uvF_eq v ((v + 1) / 128) ((v + 1) / 128) (by omega) (by omega)]
theorem uv_len (n v : Nat) (h : v < 128 ^ (n + 1)) : (uv v).length ≤ n + 1 := by
  induction n generalizing v with
  | zero => rw [uv_lo v (by simpa using h)]; simp
  | succ n ih =>
    by_cases hv : v < 128
    · rw [uv_lo v hv]; simp
    · rw [uv_hi v hv]
      have := ih (v / 128) (by rw [Nat.div_lt_iff_lt_mul (by decide)]; rw [Nat.pow_succ] at h; exact h)
      simpa using this
theorem uv_pos (v : Nat) : 0 < (uv v).length := by
  by_cases hv : v < 128
  · rw [uv_lo v hv]; simp
  · rw [uv_hi v hv]; simp
theorem uv_ten (v : Nat) (h : v < 18446744073709551616) : (uv v).length ≤ 10 := uv_len 9 v (Nat.lt_of_lt_of_le h (by decide))
theorem uv_oct (v : Nat) : ∀ x ∈ uv v, x < 256 := by
  induction v using Nat.strongRecOn with
  | _ v ih =>
    by_cases hv : v < 128
    · rw [uv_lo v hv]; intro x hx; simp at hx; omega
    · rw [uv_hi v hv]; intro x hx
      rcases List.mem_cons.1 hx with h | h
      · omega
      · exact ih (v / 128) (by omega) x h
theorem or_128 : ∀ y, y < 256 → y ||| 128 = y % 128 + 128 := by decide +kernel
theorem or_u8 (u : Nat) : bits .or .u8 ((u : Int) % 256) 128 = ((u % 128 + 128 : Nat) : Int) := by
  have h := u8_or_nat (u % 256) 128 (by omega) (by omega)
  rw [or_128 _ (by omega)] at h
  rw [show ((u : Int) % 256) = ((u % 256 : Nat) : Int) by omega]
  refine Eq.trans h ?_
  congr 1; omega
theorem acc_add (v x k : Nat) (hv : v < 2 ^ (7 * k)) (hx : x % 128 * 2 ^ (7 * k) < 18446744073709551616) : acc v x k = v + x % 128 * 2 ^ (7 * k) := by
  unfold acc
  rw [Nat.mod_eq_of_lt hx, Nat.or_comm, nat_join (7 * k) _ v (by simp) hv]
  omega
theorem ruv_uv (u : Nat) : ∀ (k v : Nat) (more : List Nat), v < 2 ^ (7 * k) → u * 2 ^ (7 * k) < 18446744073709551616 → (k = 0 ∨ 0 < u) → ruv (uv u ++ more) k v = (v + u * 2 ^ (7 * k), k + (uv u).length, 0) := by
  induction u using Nat.strongRecOn with
  | _ u ih =>
    intro k v more hv hu hku
    have hp : 2 ^ (7 * (k + 1)) = 128 * 2 ^ (7 * k) := by rw [Nat.mul_add, Nat.pow_add]; omega
    have hpos : 0 < 2 ^ (7 * k) := Nat.two_pow_pos _
    have hk9 : k ≤ 9 := by
      apply Nat.le_of_not_lt; intro h9
      have h1 : 0 < u := by omega
      have h2 : 2 ^ 70 ≤ 2 ^ (7 * k) := Nat.pow_le_pow_right (by decide) (by omega)
      have h3 : 1 * 2 ^ (7 * k) ≤ u * 2 ^ (7 * k) := Nat.mul_le_mul_right _ h1
      omega
    have h1u : k = 9 → u ≤ 1 := by
      intro h; subst h
      have : (2 : Nat) ^ (7 * 9) = 9223372036854775808 := by decide
      rw [this] at hu; omega
    by_cases hlo : u < 128
    · rw [uv_lo u hlo]
      have hm : u % 128 = u := Nat.mod_eq_of_lt hlo
      show ruv (u :: more) k v = _
      rw [ruv_end u k v more (by omega) (by omega) (by omega), acc_add v u k hv (by rw [hm]; exact hu), hm]
      rfl
    · rw [uv_hi u hlo]
      have hx : (u % 128 + 128) % 128 = u % 128 := by omega
      have hxb : u % 128 * 2 ^ (7 * k) < 18446744073709551616 := Nat.lt_of_le_of_lt (Nat.mul_le_mul_right _ (Nat.mod_le _ _)) hu
      show ruv ((u % 128 + 128) :: (uv (u / 128) ++ more)) k v = _
      rw [ruv_more _ k v _ (by omega) (by omega), acc_add v _ k hv (by rw [hx]; exact hxb), hx]
      have hsplit : u * 2 ^ (7 * k) = u % 128 * 2 ^ (7 * k) + (u / 128) * 2 ^ (7 * (k + 1)) := by
        rw [hp, ← Nat.mul_assoc, ← Nat.add_mul]
        congr 1; omega
      have hlt : v + u % 128 * 2 ^ (7 * k) < 2 ^ (7 * (k + 1)) := by
        rw [hp]
        have : u % 128 * 2 ^ (7 * k) ≤ 127 * 2 ^ (7 * k) := Nat.mul_le_mul_right _ (by omega)
        omega
      rw [ih (u / 128) (by omega) (k + 1) _ more hlt (by omega) (by right; omega)]
      simp only [List.length_cons, Prod.mk.injEq, and_true]
      omega
theorem ruv_back (v : Nat) (more : List Nat) (h : v < 18446744073709551616) : ruv (uv v ++ more) 0 0 = (v, (uv v).length, 0) := by
  have := ruv_uv v 0 0 more (by decide) (by simpa using h) (.inl rfl)
  simpa using this
end Go.Proofs.YtmbglggodifboaaDoor.Math
