/-
  The contract of octet.ReadUvarint: any bytes as a number, or refused. · The contract of the document's own ReadUvarint: it answers what octet.ReadUvarint does. · codec's reader: fail, take, next. · codec's reader: take, next. · codec's reader: next, uvarint, signed, truth, length. · codec's reader: uvarint, signed, truth, length. · codec's reader: what uvarint, signed, truth, length read. · codec's reader: text. · What codec's reader reads as a value: what is answered. · codec's reader: value, at what has no kids. · codec.readFirst, from what value answers at the beginning. · slices.Repeat of one value; codec's checkShell. · codec's checkShell. · codec's reader: nest: what is read, and what lies in memory meanwhile. · codec's reader: nest. · codec.Decode and codec.Read, from what value answers at the beginning. · The law package's same, at any two rows, and known. · codec's reader: value, at any depth; what Decode and Read answer of any bytes that end early enough. · The law CodecOne, walked. · What the law CodecBack leans on.
-/
import Derived.Test.YtlefdnjokppibaaGreatDoorVG9x
import Derived.Test.YtlefdnjokppibaaGreatDoorVG12x
import Derived.Laws.BytesArg
import Derived.Lib.Mul64
import Derived.Laws.Bits64b
import Derived.Laws.IdiomCopy
import Derived.Laws.MakeOwn
import Derived.Test.YtlefdnjokppibaaGreatDoorVG2x
import Derived.Test.YtlefdnjokppibaaGreatDoorVG3x
namespace Go.Proofs.YtlefdnjokppibaaGreatDoor
open Go.RowKit Math
def tri (r : Nat × Nat × Nat) : Value := .tuple #[.int .u64 r.1, .int .i64 r.2.1, .int .i64 r.2.2]
theorem tri_ret {r : Nat × Nat × Nat} {a b c : Nat} (h : r = (a, b, c)) {x y z : Int} (hx : x = a) (hy : y = b) (hz : z = c) : Ending.returned (.tuple #[.int .u64 x, .int .i64 y, .int .i64 z]) = Ending.returned (tri r) := by
  subst h hx hy hz; rfl
set_option maxHeartbeats 400000 in
theorem ruv_any (a : Option Addr) (cap : Nat) (l : List Nat) (hn : l.length ≤ 1000000) (w : World) (hc : Byt w a l) (hb : Oct l) :
    Calls Tryz.prog 112 #[.slice a l.length cap] w fun e w' => e = .returned (tri (ruv l 0 0)) ∧ w' = w := by
  go_enter Tryz.func112, Tryz.ntmps112
  go_wp2
  go_loop [5, 10] (fun s i => ∃ k v : Nat, k ≤ l.length ∧ k ≤ 9 ∧ i = .int .i64 k ∧ s = .int .u64 v ∧ v < 18446744073709551616 ∧ Hid (ruv l 0 0 = ruv (l.drop k) k v)) (fun _ i => l.length - (intOf i).toNat)
  case atStart => exact ⟨0, 0, by omega, by omega, rfl, rfl, by omega, rfl⟩
  case round =>
    obtain ⟨k, v, hk, hk9, rfl, rfl, hv, HR⟩ := hrel
    by_cases hlt : k < l.length
    · rcases hc with rfl | ⟨b, off, rfl, hc⟩
      · simp at hlt
      have hck := hc k hlt
      have hx := oct_get hb k
      have HD : Hid (ruv l 0 0 = ruv (l.getD k 0 :: l.drop (k + 1)) k v) := by show _ = _; rw [HR.out, drop_get l k hlt]
      generalize l.getD k 0 = x at hx hck HD
      obtain ⟨v', he, hv', hd⟩ : ∃ v' : Nat, bits .or .u64 (v : Int) (IntKind.u64.wrap (IntKind.u64.wrap (bits .and .u8 (x : Int) 127) * 2 ^ (7 * k))) = (v' : Int) ∧ v' < 18446744073709551616 ∧ Hid (v' = acc v x k) :=
        ⟨_, acc_bits v x k hv hx, acc_lt v x k hv, rfl⟩
      clear hb hc HR
      by_cases h9 : ((k : Int) == 9) = true
      · have hk9' : k = 9 := by simp at h9; omega
        have hk0 : 0 < k := by omega
        by_cases hx1 : x ≤ 1
        · have hx0 : ((x : Int) == 0) = true ∨ ((x : Int) == 0) = false := by cases ((x : Int) == 0) <;> simp
          rcases hx0 with hx0 | hx0
          · have hx00 : x = 0 := by simpa using hx0
            have HZ : Hid (ruv l 0 0 = (0, 0, 3)) := by show _ = _; rw [HD.out, ruv_zero _ _ _ _ (by omega) hx00]
            clear HD hk9' hx00
            go_wp2
            go_ret3
            exact ⟨tri_ret HZ.out rfl rfl rfl, rfl⟩
          · have hx00 : ¬ x = 0 := by simpa using hx0
            have HZ : Hid (ruv l 0 0 = (v', k + 1, 0)) := by show _ = _; rw [HD.out, ruv_end _ _ _ _ (by omega) (by omega) (by omega), hd.out]
            clear HD hk9' hx00
            go_wp2
            go_ret3
            exact ⟨tri_ret HZ.out rfl (by omega) rfl, rfl⟩
        · have HZ : Hid (ruv l 0 0 = (0, 0, 3)) := by show _ = _; rw [HD.out, ruv_nine _ _ _ _ hk9' (by omega)]
          clear HD hk9'
          go_wp2
          go_ret3
          exact ⟨tri_ret HZ.out rfl rfl rfl, rfl⟩
      · have hk9' : ¬ k = 9 := by intro h; subst h; simp at h9
        have h9 : ((k : Int) == 9) = false := by simpa using h9
        by_cases h127 : 127 < x
        · have HZ : Hid (ruv l 0 0 = ruv (l.drop (k + 1)) (k + 1) v') := by show _ = _; rw [HD.out, ruv_more _ _ _ _ (by omega) h127, hd.out]
          have hk9' : k < 9 := by omega
          clear HD
          go_wp2
          go_round
          case rel => exact ⟨k + 1, v', by omega, by omega, by go_num, rfl, hv', HZ⟩
          case measure => simp [intOf]; omega
        · have hx0 : ((x : Int) == 0) = true ∨ ((x : Int) == 0) = false := by cases ((x : Int) == 0) <;> simp
          by_cases hk0 : 0 < k
          · rcases hx0 with hx0 | hx0
            · have hx00 : x = 0 := by simpa using hx0
              have HZ : Hid (ruv l 0 0 = (0, 0, 3)) := by show _ = _; rw [HD.out, ruv_zero _ _ _ _ hk0 hx00]
              clear HD hk9' hx00
              go_wp2
              go_ret3
              exact ⟨tri_ret HZ.out rfl rfl rfl, rfl⟩
            · have hx00 : ¬ x = 0 := by simpa using hx0
              have HZ : Hid (ruv l 0 0 = (v', k + 1, 0)) := by show _ = _; rw [HD.out, ruv_end _ _ _ _ (by omega) (by omega) (by omega), hd.out]
              clear HD hk9' hx00
              go_wp2
              go_ret3
              exact ⟨tri_ret HZ.out rfl (by omega) rfl, rfl⟩
          · have HZ : Hid (ruv l 0 0 = (v', k + 1, 0)) := by show _ = _; rw [HD.out, ruv_end _ _ _ _ (by omega) (by omega) (by omega), hd.out]
            clear HD hk9' hx0
            go_wp2
            go_ret3
            exact ⟨tri_ret HZ.out rfl (by omega) rfl, rfl⟩
    · have HZ : Hid (ruv l 0 0 = (0, 0, 2)) := by show _ = _; rw [HR.out, List.drop_of_length_le (by omega)]; rfl
      clear HR hc hb
      go_wp2
      go_ret3
      exact ⟨tri_ret HZ.out rfl rfl rfl, rfl⟩

end Go.Proofs.YtlefdnjokppibaaGreatDoor
namespace Go.Proofs.YtlefdnjokppibaaGreatDoor
open Go.RowKit Math
end Go.Proofs.YtlefdnjokppibaaGreatDoor
namespace Go.Proofs.YtlefdnjokppibaaGreatDoor
open Go.RowKit Math
set_option linter.unusedVariables false
set_option maxRecDepth 8000 in
theorem or_any (a b : Int) (g c : Nat) (w : World) (h0 : w.cell? ⟨g, 0, none⟩ = some (.int .i64 a)) (h1 : w.cell? ⟨g, 1, none⟩ = some (.int .i64 b)) :
    Calls Tryz.prog 97 #[.slice (some ⟨g, 0, none⟩) 2 c] w fun e w' => e = .returned (.int .i64 (if a ≠ 0 then a else b)) ∧ w' = w := by
  have H0 : Hid (w.cell? ⟨g, 0, none⟩ = some (.int .i64 a)) := h0
  have H1 : Hid (w.cell? ⟨g, 1, none⟩ = some (.int .i64 b)) := h1
  clear h0 h1
  obtain ⟨E, HE⟩ : ∃ E, Hid ((if a ≠ 0 then a else b) = E) := ⟨_, rfl⟩
  rw [HE.out]
  go_enter Tryz.func97, Tryz.ntmps97
  go_wp2
  go_loopw [8] (fun i wr => ∃ k : Nat, k ≤ 2 ∧ i = .int .i64 (k : Int) ∧ wr = w ∧ Hid (1 ≤ k → a = 0) ∧ Hid (2 ≤ k → b = 0)) (fun i _ => 2 - (intOf i).toNat)
  case atStart => exact ⟨0, by omega, rfl, rfl, fun h => by omega, fun h => by omega⟩
  case round =>
    obtain ⟨k, hk, rfl, rfl, HA, HB⟩ := hrel
    by_cases k2 : k = 2
    · subst k2
      have ha := HA.out (by omega)
      have hb := HB.out (by omega)
      go_wp2
      go_ret
      exact ⟨ret_int (by rw [← HE.out, ha, hb]; rfl), rfl⟩
    by_cases k1 : k = 1
    · subst k1
      have c1 := H1.out
      by_cases hb : b = 0
      · have hbb : (b != 0) = false := by simpa using hb
        have HB0 : Hid (b = 0) := hb
        clear hb
        go_wp2
        go_roundw
        case rel => exact ⟨2, by omega, rfl, trivial, fun _ => HA.out (by omega), fun _ => HB0.out⟩
        case measure => simp [intOf]
      · have hbb : (b != 0) = true := by simpa using hb
        have ha := HA.out (by omega)
        have HAA : Hid (a = 0) := ha
        clear ha
        go_wp2
        go_ret
        exact ⟨ret_int (by rw [← HE.out, if_neg (by simpa using HAA.out)]), rfl⟩
    obtain rfl : k = 0 := by omega
    have c0 := H0.out
    by_cases ha : a = 0
    · have hab : (a != 0) = false := by simpa using ha
      have HA0 : Hid (a = 0) := ha
      clear ha
      go_wp2
      go_roundw
      case rel => exact ⟨1, by omega, rfl, trivial, fun _ => HA0.out, fun h => by omega⟩
      case measure => simp [intOf]
    · have hab : (a != 0) = true := by simpa using ha
      go_wp2
      go_ret
      exact ⟨ret_int (by rw [← HE.out, if_pos ha]), rfl⟩
theorem or_lit (a b : Int) (w : World) : Calls Tryz.prog 97 #[.slice (some ⟨w.heap.size, 0, none⟩) 2 2] (w.alloc (.cells #[.int .i64 a, .int .i64 b] 29)) fun e w' => e = .returned (.int .i64 (if a ≠ 0 then a else b)) ∧ w' = w.alloc (.cells #[.int .i64 a, .int .i64 b] 29) :=
  or_any a b w.heap.size 2 _ (by simp [World.cell?_alloc_new]) (by simp [World.cell?_alloc_new])
theorem s30 : (Tryz.prog.info? 29).map (·.size) = some 1 := by kernel_rfl
theorem s3 : (Tryz.prog.info? 3).map (·.size) = some 1 := by kernel_rfl
end Go.Proofs.YtlefdnjokppibaaGreatDoor
namespace Go.Proofs.YtlefdnjokppibaaGreatDoor
open Go.RowKit Math
set_option linter.unusedVariables false
end Go.Proofs.YtlefdnjokppibaaGreatDoor
namespace Go.Proofs.YtlefdnjokppibaaGreatDoor
open Go.RowKit Math
set_option linter.unusedVariables false
/-- What a reader reads. -/
structure En (w0 W : World) (r : Nat) (ab : Option Addr) (cb : Nat) (L : List Nat) : Prop where
  byt : Byt w0 ab L
  oct : Oct L
  bl : Below w0.heap.size w0 W
  lt : w0.heap.size ≤ r
  len : L.length ≤ 1000000
  cap : L.length ≤ cb
  cm : cb ≤ 9223372036854775807
  nil : ab = none → cb = 0
theorem ruv_bad : ∀ (l : List Nat) (k v : Nat), (ruv l k v).2.2 ≠ 0 → (ruv l k v).1 = 0 ∧ (ruv l k v).2.1 = 0
  | [], k, v, h => ⟨rfl, rfl⟩
  | x :: l, k, v, h => by
    unfold ruv at h ⊢
    split
    · exact ⟨rfl, rfl⟩
    · next h1 =>
      rw [if_neg h1] at h
      split
      · next h2 =>
        rw [if_pos h2] at h
        exact ruv_bad l _ _ h
      · next h2 =>
        rw [if_neg h2] at h
        split
        · exact ⟨rfl, rfl⟩
        · next h3 =>
          rw [if_neg h3] at h
          exact absurd rfl h
theorem ruv_good {l : List Nat} (ho : Oct l) (h : (ruv l 0 0).2.2 = 0) : (ruv l 0 0).1 < 18446744073709551616 ∧ (ruv l 0 0).2.1 ≤ l.length ∧ (ruv l 0 0).2.1 ≤ 10 ∧ 0 < (ruv l 0 0).2.1 := by
  obtain ⟨q, r, e1, e2, e3, _, e5⟩ := ruv_inv l 0 0 (ruv l 0 0).1 (ruv l 0 0).2.1 ho (by decide) (by decide) (by
    generalize ruv l 0 0 = t at *
    obtain ⟨a, b, c⟩ := t
    simp only at h
    rw [h])
  have e3 : (ruv l 0 0).1 = q := by simpa using e3
  refine ⟨e5, ?_, ?_, ?_⟩
  · rw [e2, Nat.zero_add]
    conv => rhs; rw [e1]
    simp
  · rw [e2, Nat.zero_add]
    exact uv_ten q (by omega)
  · rw [e2, Nat.zero_add]
    exact uv_pos q
end Go.Proofs.YtlefdnjokppibaaGreatDoor
namespace Go.Proofs.YtlefdnjokppibaaGreatDoor
open Go.RowKit Math
set_option linter.unusedVariables false
end Go.Proofs.YtlefdnjokppibaaGreatDoor
namespace Go.Proofs.YtlefdnjokppibaaGreatDoor
open Go.RowKit Math
set_option linter.unusedVariables false
theorem byt_drop {w : World} {bb ob : Nat} {L : List Nat} (h : Cells w bb ob L) (i : Nat) : Cells w bb (ob + i) (L.drop i) := fun k hk => by
  rw [List.length_drop] at hk
  have := h (i + k) (by omega)
  rw [Nat.add_assoc, this]
  simp [List.getD_eq_getElem?_getD, List.getElem?_drop]
end Go.Proofs.YtlefdnjokppibaaGreatDoor
namespace Go.Proofs.YtlefdnjokppibaaGreatDoor
open Go.RowKit Math
set_option linter.unusedVariables false
theorem strOf (l : List Nat) (h : Oct l) : strOfNums (l.map fun n : Nat => (n : Int)) = ofB l := by
  unfold strOfNums ofB
  congr 2
  rw [List.map_map]
  apply List.map_congr_left
  intro x hx
  have := h x hx
  simp
end Go.Proofs.YtlefdnjokppibaaGreatDoor
namespace Go.Proofs.YtlefdnjokppibaaGreatDoor
open Go.RowKit Math
set_option linter.unusedVariables false
/-- It is short enough, or it ends early enough. -/
def Sm {α : Type} (f : Rdr α) (L : List Nat) (i : Nat) : Prop := L.length ≤ 65536 ∨ ∃ p rest, f (L.drop i) = .ok (p, rest) ∧ L.length ≤ 65536 + rest.length
/-- A value without names and kids lies nowhere else. -/
theorem vl_lf (w : World) (k n s : Int) (t : ByteArray) : VlL w (lf k n s t) none 0 none 0 [] :=
  ⟨[], [], rfl, .inl ⟨rfl, rfl⟩, ⟨Nat.le_refl _, fun _ => rfl, by decide⟩, ⟨Nat.le_refl _, fun _ => rfl, by decide⟩, .inl ⟨rfl, rfl⟩⟩
end Go.Proofs.YtlefdnjokppibaaGreatDoor
namespace Go.Proofs.YtlefdnjokppibaaGreatDoor
open Go.RowKit Math
set_option linter.unusedVariables false
set_option linter.unusedSimpArgs false
end Go.Proofs.YtlefdnjokppibaaGreatDoor
namespace Go.Proofs.YtlefdnjokppibaaGreatDoor
open Go.RowKit Math
set_option linter.unusedVariables false
set_option linter.unusedSimpArgs false
end Go.Proofs.YtlefdnjokppibaaGreatDoor
namespace Go.Proofs.YtlefdnjokppibaaGreatDoor
open Go.RowKit Math
set_option linter.unusedVariables false
set_option linter.unusedSimpArgs false
section
variable {P : Program} {ops : Array Oper} {rest : List Oper} {o : Oper} {a : Act} {w : World} {Q : Exit → Act → World → Prop} {K : Act → World → Prop} {C : World → Prop}
theorem run_fromW (T elem : TypeId) (hu : P.underlying T = some (.slice elem)) (sz : Nat) (hsz : ∀ w, (Go.sizeOf elem).run P w = .ok sz w) (A : Option Addr) (len cap n : Nat) (hn : n ≤ len) (w : World) :
    (Instr.sliceAt T (.slice A len cap) (some (.int .i64 (n : Int))) none none).run P w = .ok (.slice (if cap = n then A else A.map fun p => p.add (n * sz)) (len - n) (cap - n)) w := by
  have h0 : (0 : Int) ≤ (n : Int) ∧ (n : Int) ≤ (len : Int) := ⟨by omega, by omega⟩
  simp [Instr.sliceAt, Instr.slice, Instr.sliceBounds, Instr.sliceBound, asIntOf, run_underlying hu, h0, hsz]
  intro h
  omega
end
namespace Mul
end Mul
end Go.Proofs.YtlefdnjokppibaaGreatDoor
namespace Go.Proofs.YtlefdnjokppibaaGreatDoor
open Go.RowKit Math
set_option linter.unusedVariables false
set_option linter.unusedSimpArgs false
end Go.Proofs.YtlefdnjokppibaaGreatDoor
namespace Go.Proofs.YtlefdnjokppibaaGreatDoor
open Go.RowKit Math
set_option linter.unusedVariables false
set_option linter.unusedSimpArgs false
/-! ### what is read -/
theorem bind_err {α β : Type} {f : Rdr α} {g : α → Rdr β} {l : List Nat} {e : Nat} (h : f l = .error e) : f.bind g l = .error e := by
  unfold Rdr.bind
  rw [h]
theorem oct_drop {L : List Nat} (h : Oct L) (j : Nat) : Oct (L.drop j) := fun x hx => h x (List.mem_of_mem_drop hx)
/-! ### what lies in memory -/
section
variable {B g6 g8 r : Nat} {ab : Option Addr} {cb : Nat} {L : List Nat} {W : World} {k : Int} {wr w' : World} {j j' : Nat} {e e' : Int} {ns : List ByteArray} {f : Fo} {vn vk : Value} {cs : List Value} {Lf : List Nat}
end
end Go.Proofs.YtlefdnjokppibaaGreatDoor
namespace Go.Proofs.YtlefdnjokppibaaGreatDoor
open Go.RowKit Math
set_option linter.unusedVariables false
set_option linter.unusedSimpArgs false
end Go.Proofs.YtlefdnjokppibaaGreatDoor
namespace Go.Proofs.YtlefdnjokppibaaGreatDoor
open Go.RowKit Math
set_option linter.unusedVariables false
set_option linter.unusedSimpArgs false
/-- No value. -/
def noV : Vt := lf 0 0 0 em
def decE (L : List Nat) : Int := match rdV 16 L with
  | .error e => (e : Int)
  | .ok (p, rest) => if chk0V p ≠ 0 then chk0V p else if rest ≠ [] then 3 else if 65536 < L.length then 5 else 0
def decP (L : List Nat) : Vt := match rdV 16 L with
  | .error _ => noV
  | .ok (p, _) => if decE L = 0 then p else noV
end Go.Proofs.YtlefdnjokppibaaGreatDoor
namespace Go.Proofs.YtlefdnjokppibaaGreatDoor
open Go.RowKit Go.ChangeShapes Go.WideShapes Math
set_option linter.unusedVariables false
set_option linter.unusedSimpArgs false
end Go.Proofs.YtlefdnjokppibaaGreatDoor
namespace Go.Proofs.YtlefdnjokppibaaGreatDoor
open Go.RowKit Math
set_option linter.unusedVariables false
theorem sm_enc {p : Vt} (hp : WfV p) (hc : chkV p 1 = 0) (hl : (encV p).length ≤ 65536) (m : List Nat) : Sm (rdV 16) (encV p ++ m) 0 := .inr ⟨p, m, by rw [List.drop_zero]; exact enc_back p hp hc m, by rw [List.length_append]; omega⟩
end Go.Proofs.YtlefdnjokppibaaGreatDoor
namespace Go.Proofs.YtlefdnjokppibaaGreatDoor
open Go.RowKit Go.ChangeShapes Go.WideShapes Math
set_option linter.unusedVariables false
set_option linter.unusedSimpArgs false
theorem enc_ok {p : Vt} (h : encE p = 0) : chkV p 1 = 0 ∧ encB p = encV p ∧ (encV p).length ≤ 65536 := by
  by_cases h1 : chkV p 1 = 0
  · by_cases h2 : 65536 < (encV p).length
    · have := (encE_long h1 h2).1
      omega
    · exact ⟨h1, (encE_yes h1 h2).2, by omega⟩
  · have := (encE_no h1).1
    omega
end Go.Proofs.YtlefdnjokppibaaGreatDoor
namespace Go.Proofs.YtlefdnjokppibaaGreatDoor
open Go.RowKit Go.ChangeShapes Go.WideShapes Math
set_option linter.unusedVariables false
set_option linter.unusedSimpArgs false
set_option maxRecDepth 8000 in
set_option maxHeartbeats 4000000 in
theorem great_big (p : Vt) (hwf : WfV p) (na : Option Addr) (nc : Nat) (ka : Option Addr) (kc : Nat) (g m : Nat) (w0 W : World) (hv : Vl w0 p na nc ka kc) (hb : Below w0.heap.size w0 W) (hg : w0.heap.size ≤ g) (hm : Blk W g 3 [.int .i64 (m : Int)]) (hm2 : m ≤ 150000000000000) (hm3 : 3000 < m) :
    Calls Tryz.prog 26 #[.agg #[.int .i64 p.1.k, .int .i64 p.1.n, .int .i64 p.1.s, .string p.1.t, .slice na p.1.ns.length nc, .slice ka p.2.list.length kc], .pointer (some ⟨g, 0, none⟩)] W fun e W' => e = .returned (.bool true) ∧ Hid (W.grownBy W' (some g)) := by
  have hkl := hwf.2.1
  have htl := hwf.1.t1
  have hnl := hwf.1.c1
  obtain ⟨W1, HW1⟩ : ∃ W1, Hid (W.alloc (.cells #[.int .i64 p.1.k, .int .i64 p.1.n, .int .i64 p.1.s, .string p.1.t, .slice na p.1.ns.length nc, .slice ka p.2.list.length kc] 41) = W1) := ⟨_, rfl⟩
  have bx : Blk W1 W.heap.size 41 (six p.1 na nc ka p.2.list.length kc) := by rw [← HW1.out]; exact blk_new W 41 _
  have bm : Blk W1 g 3 [.int .i64 (m : Int)] := by rw [← HW1.out]; exact hm.alloc _
  have g1 : W.grownBy W1 none := by rw [← HW1.out]; exact World.grownBy_alloc W _ none
  have hne : g ≠ W.heap.size := Nat.ne_of_lt hm.lt
  have c0 : W1.cell? ⟨g, 0, none⟩ = some (.int .i64 (m : Int)) := bm.cell 0
  have c3 : W1.cell? ⟨W.heap.size, 3, none⟩ = some (.string p.1.t) := bx.cell 3
  have c4 : W1.cell? ⟨W.heap.size, 4, none⟩ = some (.slice na p.1.ns.length nc) := bx.cell 4
  have fr : W1.frozen? ⟨g, 0, none⟩ = false := bm.frozen 0
  have HS : Hid (ws p = wsH p.1 + p.2.ws) := rfl
  have HSh : Hid (wsH p.1 = 1 + p.1.t.size / 20 + p.1.ns.length) := rfl
  have HW : Hid (WfV p) := hwf
  have HV : Hid (Vl w0 p na nc ka kc) := hv
  have HB : Hid (Below w0.heap.size w0 W) := hb
  have HBx : Hid (Blk W1 W.heap.size 41 (six p.1 na nc ka p.2.list.length kc)) := bx
  have HBm : Hid (Blk W1 g 3 [.int .i64 (m : Int)]) := bm
  have HG1 : Hid (W.grownBy W1 none) := g1
  generalize ws p = WS at *
  clear hwf hv hb bx bm g1 hm
  go_enter Tryz.func26, Tryz.ntmps26
  go_wp2
  generalize hWW : World.alloc W _ = W2
  obtain rfl : W1 = W2 := by rw [← hWW, ← HW1.out]
  clear hWW HW1
  obtain ⟨m1, HM1⟩ : ∃ m1 : Nat, Hid (m1 = m + 1 + p.1.t.size / 20 + p.1.ns.length) := ⟨_, rfl⟩
  have hm1 : m1 ≤ 1000000000000000 := by rw [HM1.out]; omega
  have HX : Hid ((m : Int) + 1 + (p.1.t.size : Int) / 20 + (p.1.ns.length : Int) = (m1 : Int)) := by
    show _ = _
    rw [HM1.out]
    omega
  go_region
  all_goals go_wp2
  rw [HX.out]
  obtain ⟨W2, HW2⟩ : ∃ W2, Hid ((W1.setCell ⟨g, 0, none⟩ (.int .i64 (m1 : Int))).drew = W2) := ⟨_, rfl⟩
  rw [HW2.out]
  have HG2 : Hid (W1.grownBy W2 (some g)) := by
    rw [← HW2.out]
    have h := grown_setCell W1 ⟨g, 0, none⟩ (.int .i64 (m1 : Int))
    exact ⟨h.os, h.tape, h.output, h.size, h.block⟩
  have HB2 : Hid (Blk W2 g 3 [.int .i64 (m1 : Int)]) := by
    rw [← HW2.out]
    exact HBm.out.set 0 (.int .i64 (m1 : Int))
  have HX2 : Hid (Blk W2 W.heap.size 41 (six p.1 na nc ka p.2.list.length kc)) := HBx.out.kept HG2.out (fun e => hne (Option.some.inj e).symm)
  have HBw : Hid (Below w0.heap.size w0 W2) := (HB.out.grown HG1.out HB.out.size (fun k e => by cases e)).grown HG2.out (Nat.le_trans HB.out.size HG1.out.size) (fun k e => by cases e; exact hg)
  have HGW : Hid (W.grownBy W2 (some g)) := by
    have h1 := HG1.out
    have h2 := HG2.out
    exact ⟨h2.os.trans h1.os, h2.tape.trans h1.tape, h2.output.trans h1.output, Nat.le_trans h1.size h2.size, fun k hk hne => (h2.block k (Nat.lt_of_lt_of_le hk h1.size) hne).trans (h1.block k hk (by simp))⟩
  clear HW2 HX c0 c3 c4 fr HBx HBm HG1 HG2
  have hm13 : 3000 < m1 := by rw [HM1.out]; omega
  go_loopw [5] (fun i wr => i = .int .i64 0 ∧ wr = W2) (fun _ _ => 0)
  case atStart => exact ⟨rfl, rfl⟩
  case round =>
    obtain ⟨rfl, rfl⟩ := hrel
    have cg : wr.cell? ⟨g, 0, none⟩ = some (.int .i64 (m1 : Int)) := HB2.out.cell 0
    have c5 : wr.cell? ⟨W.heap.size, 5, none⟩ = some (.slice ka p.2.list.length kc) := HX2.out.cell 5
    have h3 : decide ((m1 : Int) ≤ 3000) = false := by simp; omega
    have h4 : decide ((3000 : Int) < (m1 : Int)) = true := by simp; omega
    by_cases h1 : 0 < p.2.list.length
    · have h1b : decide ((0 : Int) < (p.2.list.length : Int)) = true := decide_eq_true (by omega)
      go_wp2
      go_ret
      exact ⟨rfl, HGW.out⟩
    · have h1b : decide ((0 : Int) < (p.2.list.length : Int)) = false := decide_eq_false (by omega)
      go_wp2
      go_ret
      exact ⟨rfl, HGW.out⟩
theorem dec_self {p : Vt} (hw : WfV p) (he : encE p = 0) : decE (encV p) = 0 ∧ decP (encV p) = p := by
  obtain ⟨h1, h2, h3⟩ := enc_ok he
  have h := enc_back p hw h1 []
  rw [List.append_nil] at h
  have e : decE (encV p) = 0 := by
    unfold decE
    rw [h]
    simp only
    rw [if_neg (by simpa using chk1 h1), if_neg (by simp), if_neg (by omega)]
  refine ⟨e, ?_⟩
  unfold decP
  rw [h]
  simp only
  rw [e]
  rfl
/-- No error is nought. -/
def Nz {α : Type} (f : Rdr α) : Prop := ∀ l, f l ≠ .error 0
theorem nz_ret {α : Type} (x : α) : Nz (Rdr.ret x) := fun l h => by cases h
theorem nz_no {α : Type} {e : Nat} (he : e ≠ 0) : Nz (Rdr.no (α := α) e) := fun l h => he (Except.error.inj h)
theorem nz_bind {α β : Type} {f : Rdr α} {g : α → Rdr β} (hf : Nz f) (hg : ∀ x, Nz (g x)) : Nz (f.bind g) := fun l h => by
  unfold Rdr.bind at h
  cases e : f l with
  | error x =>
    rw [e] at h
    simp only at h
    have : x = 0 := Except.error.inj h
    exact hf l (by rw [e, this])
  | ok v =>
    obtain ⟨x, m⟩ := v
    rw [e] at h
    exact hg x m h
theorem nz_if {α : Type} {p : Prop} [Decidable p] {f g : Rdr α} (hf : Nz f) (hg : Nz g) : Nz (if p then f else g) := by
  split
  · exact hf
  · exact hg
theorem nz_by : Nz byR := fun l h => by
  cases l with
  | nil => cases h
  | cons a b => cases h
theorem nz_uv : Nz uvR := fun l h => by
  unfold uvR at h
  split at h
  · cases h
  · rename_i c
    exact c (Except.error.inj h)
theorem nz_len : Nz lenR := nz_bind nz_uv fun u => nz_if (nz_no (by decide)) (nz_ret _)
theorem nz_take (n : Nat) : Nz (takeR n) := fun l h => by
  unfold takeR at h
  split at h
  · cases h
  · cases h
theorem nz_tx : Nz txR := nz_bind nz_len fun n => nz_bind (nz_take n) fun b => nz_ret _
theorem nz_N {g : Rdr Vt} (hg : Nz g) (b : Bool) : ∀ n, Nz (rdN g b n)
  | 0 => nz_ret _
  | n + 1 => nz_bind (nz_N hg b n) fun q => nz_if (nz_bind nz_tx fun s => nz_bind hg fun v => nz_ret _) (nz_bind hg fun v => nz_ret _)
theorem rd_nz : ∀ d, Nz (rdV d)
  | 0 => nz_no (by decide)
  | d + 1 => nz_bind nz_by fun k => by
    have ih := rd_nz d
    refine nz_if (nz_ret _) (nz_if (nz_bind nz_by fun x => nz_if (nz_no (by decide)) (nz_ret _)) (nz_if (nz_bind nz_uv fun u => nz_ret _) (nz_if (nz_bind nz_uv fun u => nz_bind nz_by fun x => nz_ret _) (nz_if (nz_bind nz_uv fun u => nz_ret _) (nz_if (nz_bind nz_tx fun u => nz_ret _) (nz_if (nz_bind nz_tx fun u => nz_ret _) (nz_if (nz_bind nz_len fun n => nz_bind (nz_N ih false n) fun q => nz_ret _) (nz_if (nz_bind nz_len fun n => nz_bind (nz_N ih true n) fun q => nz_ret _) (nz_no (by decide))))))))))
theorem dec_inv {l : List Nat} (ho : Oct l) (hl : l.length ≤ 65536) (h : decE l = 0) : WfV (decP l) ∧ encE (decP l) = 0 ∧ encB (decP l) = l := by
  have h0 := h
  unfold decE at h
  cases e : rdV 16 l with
  | error x =>
    rw [e] at h
    simp only at h
    have hx : x = 0 := by omega
    exact absurd e (by rw [hx]; exact rd_nz 16 l)
  | ok v =>
    obtain ⟨q, rest⟩ := v
    rw [e] at h
    simp only at h
    have eP : decP l = q := by
      unfold decP
      rw [e]
      simp only
      rw [h0]
      rfl
    rw [eP]
    have F := find_V 16 l q rest ho e
    by_cases hc : chk0V q = 0
    case neg => rw [if_pos hc] at h; exact absurd h hc
    rw [if_neg (by simpa using hc)] at h
    by_cases hr : rest = []
    case neg => rw [if_pos hr] at h; simp at h
    subst hr
    have hw := F.wr hc
    rw [List.append_nil] at hw
    have hd := F.dp
    have h1 : chkV q 1 = 0 := by rw [chkV_flat q 1 (by omega)]; exact hc
    obtain ⟨a, b⟩ := encE_yes h1 (by rw [← hw]; omega)
    exact ⟨F.wf, a, by rw [b, ← hw]⟩
end Go.Proofs.YtlefdnjokppibaaGreatDoor
