/-
  The contracts of octet.join, ReadBig, ReadShort and of the document's own ReadBig, ReadShort. · order's reader: time. · order's reader: what value and nest answer.
-/
import Derived.Test.YtmlfhplhiedfjaaGreatDoorOG13x
import Derived.Laws.Bits64b
import Derived.Test.YtmlfhplhiedfjaaGreatDoorOUc
import Derived.Test.YtmlfhplhiedfjaaGreatDoorOG14x
import Derived.Test.YtmlfhplhiedfjaaGreatDoorOG16x
import Derived.Test.YtmlfhplhiedfjaaGreatDoorOUg
namespace Go.Proofs.YtmlfhplhiedfjaaGreatDoor
open Go.RowKit Math
set_option linter.unusedVariables false
set_option linter.unusedSimpArgs false
/-- Bytes as a number, the highest first. -/
def num (l : List Nat) : Nat := l.foldl (fun v x => v * 256 + x) 0
theorem num_snoc (l : List Nat) (x : Nat) : num (l ++ [x]) = num l * 256 + x := by simp [num]
theorem num_app (l m : List Nat) : num (l ++ m) = num l * 256 ^ m.length + num m := by
  have key : ∀ (m : List Nat) (c : Nat), m.foldl (fun v x => v * 256 + x) c = c * 256 ^ m.length + m.foldl (fun v x => v * 256 + x) 0 := by
    intro m
    induction m with
    | nil => intro c; simp
    | cons x m ih =>
      intro c
      simp only [List.foldl_cons, List.length_cons]
      rw [ih (c * 256 + x), ih (0 * 256 + x), Nat.pow_succ, Nat.add_mul, Nat.zero_mul, Nat.zero_add, Nat.mul_assoc, Nat.mul_comm 256, Nat.add_assoc]
  unfold num
  rw [List.foldl_append, key]
theorem num_lt (l : List Nat) (h : Oct l) : num l < 256 ^ l.length := by
  induction l with
  | nil => decide
  | cons x l ih =>
    have e : num (x :: l) = x * 256 ^ l.length + num l := by
      have := num_app [x] l
      simpa [num] using this
    have h1 := ih (fun y hy => h y (by simp [hy]))
    have h2 : x < 256 := h x (by simp)
    have h3 : x * 256 ^ l.length ≤ 255 * 256 ^ l.length := Nat.mul_le_mul_right _ (by omega)
    rw [e, List.length_cons, Nat.pow_succ]
    omega
theorem or_u32 (i A B : Nat) (hA : A % 2 ^ i = 0) (hB : B < 2 ^ i) (hA' : A < 4294967296) (hB' : B < 4294967296) : bits .or .u32 (A : Int) (B : Int) = ((A + B : Nat) : Int) := by
  rw [u32_or_nat A B hA' hB', nat_join i A B hA hB]
theorem or_u64 (i A B : Nat) (hA : A % 2 ^ i = 0) (hB : B < 2 ^ i) (hA' : A < 18446744073709551616) (hB' : B < 18446744073709551616) : bits .or .u64 (A : Int) (B : Int) = ((A + B : Nat) : Int) := by
  rw [u64_or_nat A B hA' hB', nat_join i A B hA hB]
theorem quad (x0 x1 x2 x3 : Nat) (b0 : x0 < 256) (b1 : x1 < 256) (b2 : x2 < 256) (b3 : x3 < 256) :
    bits .or .u32 (bits .or .u32 (bits .or .u32 ((x0 : Int) * 16777216) ((x1 : Int) * 65536)) ((x2 : Int) * 256)) (x3 : Int) = ((num [x0, x1, x2, x3] : Nat) : Int) := by
  have e1 := or_u32 24 (x0 * 16777216) (x1 * 65536) (by omega) (by omega) (by omega) (by omega)
  have e2 := or_u32 16 (x0 * 16777216 + x1 * 65536) (x2 * 256) (by omega) (by omega) (by omega) (by omega)
  have e3 := or_u32 8 (x0 * 16777216 + x1 * 65536 + x2 * 256) x3 (by omega) (by omega) (by omega) (by omega)
  rw [show ((x0 : Int) * 16777216) = ((x0 * 16777216 : Nat) : Int) by omega, show ((x1 : Int) * 65536) = ((x1 * 65536 : Nat) : Int) by omega, show ((x2 : Int) * 256) = ((x2 * 256 : Nat) : Int) by omega, e1, e2, e3]
  simp only [num, List.foldl_cons, List.foldl_nil]
  omega
set_option maxRecDepth 8000 in
set_option maxHeartbeats 400000 in
theorem join_any (a : Option Addr) (n cap : Nat) (l : List Nat) (hl : l.length = n) (hn : n ≤ 8) (w : World) (hc : Byt w a l) (hb : Oct l) :
    Calls Tryz.prog 127 #[.slice a n cap] w fun e w' => e = .returned (.int .u64 ((num l : Nat) : Int)) ∧ w' = w := by
  subst hl
  go_enter Tryz.func127, Tryz.ntmps127
  go_wp2
  go_loop [3, 8] (fun s i => ∃ k v : Nat, k ≤ l.length ∧ i = .int .i64 k ∧ s = .int .u64 v ∧ Hid (v = num (l.take k))) (fun _ i => l.length - (intOf i).toNat)
  case atStart => exact ⟨0, 0, by omega, rfl, rfl, rfl⟩
  case round =>
    obtain ⟨k, v, hk, rfl, rfl, HV⟩ := hrel
    by_cases hlt : k < l.length
    · rcases hc with rfl | ⟨b, off, rfl, hc⟩
      · simp at hlt
      have hck := hc k hlt
      have hx := oct_get hb k
      have hv56 : v < 72057594037927936 := by
        rw [HV.out]
        refine Nat.lt_of_lt_of_le (num_lt _ (fun y hy => hb y (List.mem_of_mem_take hy))) ?_
        have : (l.take k).length ≤ 7 := by rw [List.length_take]; omega
        exact Nat.le_trans (Nat.pow_le_pow_right (by decide) this) (by decide)
      have HN : Hid (num (l.take (k + 1)) = v * 256 + l.getD k 0) := by show _ = _; rw [take_snoc l k hlt, num_snoc, HV.out]
      generalize l.getD k 0 = x at hx hck HN
      clear hb hc HV
      obtain ⟨y, hy, HY⟩ : ∃ y : Nat, bits .or .u64 ((v : Int) * 256) (x : Int) = (y : Int) ∧ Hid (y = v * 256 + x) :=
        ⟨v * 256 + x, by rw [show ((v : Int) * 256) = ((v * 256 : Nat) : Int) by omega]; exact or_u64 8 _ x (by omega) (by omega) (by omega) (by omega), rfl⟩
      go_wp2
      go_round
      case rel => exact ⟨k + 1, y, by omega, by go_num, rfl, by show _ = _; rw [HY.out, HN.out]⟩
      case measure => simp [intOf]; omega
    · have HE : Hid (v = num l) := by show _ = _; rw [HV.out, List.take_of_length_le (by omega)]
      clear HV hc hb
      go_wp2
      go_ret
      exact ⟨ret_int (by rw [HE.out]), rfl⟩

def duo (k : IntKind) (r : Nat × Nat) : Value := .tuple #[.int k r.1, .int .i64 r.2]
theorem duo_ret {k : IntKind} {r : Nat × Nat} {a b : Nat} (h : r = (a, b)) {x y : Int} (hx : x = a) (hy : y = b) : Ending.returned (.tuple #[.int k x, .int .i64 y]) = Ending.returned (duo k r) := by
  subst h hx hy; rfl
def rsh (l : List Nat) : Nat × Nat := if l.length < 4 then (0, 2) else (num (l.take 4), 0)
def rbg (l : List Nat) : Nat × Nat := if l.length < 8 then (0, 2) else (num (l.take 8), 0)
theorem oct_take {l : List Nat} (h : Oct l) (k : Nat) : Oct (l.take k) := fun y hy => h y (List.mem_of_mem_take hy)
theorem oct_drop {l : List Nat} (h : Oct l) (k : Nat) : Oct (l.drop k) := fun y hy => h y (List.mem_of_mem_drop hy)
theorem Cells.take {w : World} {b off : Nat} {l : List Nat} (h : Cells w b off l) (k : Nat) : Cells w b off (l.take k) := by
  have e : l = l.take k ++ l.drop k := (List.take_append_drop k l).symm
  exact Cells.left (m := l.drop k) (by rw [← e]; exact h)
theorem Cells.drop {w : World} {b off : Nat} {l : List Nat} (h : Cells w b off l) (k : Nat) : Cells w b (off + k) (l.drop k) := fun i hi => by
  rw [List.length_drop] at hi
  have := h (k + i) (by omega)
  rw [Nat.add_assoc, this]
  simp [List.getD_eq_getElem?_getD]
theorem take4 (l : List Nat) (h : 4 ≤ l.length) : l.take 4 = [l.getD 0 0, l.getD 1 0, l.getD 2 0, l.getD 3 0] := by
  match l, h with
  | a :: b :: c :: d :: l, _ => rfl

set_option maxRecDepth 8000 in
set_option maxHeartbeats 400000 in
theorem rb_any (a : Option Addr) (cap : Nat) (l : List Nat) (hn : l.length ≤ 1000000) (hlc : l.length ≤ cap) (w : World) (hc : Byt w a l) (hb : Oct l) :
    Calls Tryz.prog 89 #[.slice a l.length cap] w fun e w' => e = .returned (duo .u64 (rbg l)) ∧ w' = w := by
  by_cases h8 : l.length < 8
  · have HZ : Hid (rbg l = (0, 2)) := by show _ = _; unfold rbg; rw [if_pos h8]
    clear hc hb
    go_enter Tryz.func89, Tryz.ntmps89
    go_wp2
    go_ret2
    exact ⟨duo_ret HZ.out rfl rfl, rfl⟩
  · have HZ : Hid (rbg l = (num (l.take 8), 0)) := by show _ = _; unfold rbg; rw [if_neg h8]
    rcases hc with rfl | ⟨b, off, rfl, hc⟩
    · simp at h8
    have hcap : (8 : Int) ≤ (cap : Int) := by omega
    have hl8 : (l.take 8).length = 8 := by rw [List.length_take]; omega
    have HJ : Hid (∀ W, Byt W (some ⟨b, off, none⟩) (l.take 8) → Oct (l.take 8) → Calls Tryz.prog 127 #[.slice (some ⟨b, off, none⟩) 8 cap] W fun e w' => e = .returned (.int .u64 ((num (l.take 8) : Nat) : Int)) ∧ w' = W) :=
      fun W => join_any (some ⟨b, off, none⟩) 8 cap (l.take 8) hl8 (by decide) W
    have HB : Hid (Oct (l.take 8)) := oct_take hb 8
    have HC : Hid (Byt w (some ⟨b, off, none⟩) (l.take 8)) := .inr ⟨b, off, rfl, hc.take 8⟩
    clear hl8 hc hb
    generalize num (l.take 8) = v at HZ HJ
    go_enter Tryz.func89, Tryz.ntmps89
    go_wp2_with fail
    refine (HJ.out _ HC.out HB.out).mono ?_
    rintro e w' ⟨rfl, rfl⟩
    go_wp2
    go_ret2
    exact ⟨duo_ret HZ.out rfl rfl, rfl⟩

set_option maxRecDepth 8000 in
set_option maxHeartbeats 400000 in
theorem rsr_four (b off n cap x0 x1 x2 x3 : Nat) (hn : 4 ≤ n) (w : World) (h0 : w.cell? ⟨b, off, none⟩ = some (.int .u8 (x0 : Int))) (h1 : w.cell? ⟨b, off + 1, none⟩ = some (.int .u8 (x1 : Int))) (h2 : w.cell? ⟨b, off + 2, none⟩ = some (.int .u8 (x2 : Int))) (h3 : w.cell? ⟨b, off + 3, none⟩ = some (.int .u8 (x3 : Int)))
    (b0 : x0 < 256) (b1 : x1 < 256) (b2 : x2 < 256) (b3 : x3 < 256) :
    Calls Tryz.prog 93 #[.slice (some ⟨b, off, none⟩) n cap] w fun e w' => e = .returned (duo .u32 (num [x0, x1, x2, x3], 0)) ∧ ∃ q, w' = w.drewN q := by
  have hn' : (4 : Int) ≤ (n : Int) := by omega
  have hq : Hid _ := quad x0 x1 x2 x3 b0 b1 b2 b3
  go_enter Tryz.func93, Tryz.ntmps93
  go_wp2
  go_quiet (fail)
  go_wp2
  go_ret2
  exact ⟨duo_ret rfl hq.out rfl, _, rfl⟩
set_option maxRecDepth 8000 in
set_option maxHeartbeats 400000 in
theorem rsr_any (a : Option Addr) (cap : Nat) (l : List Nat) (hn : l.length ≤ 1000000) (w : World) (hc : Byt w a l) (hb : Oct l) :
    Calls Tryz.prog 93 #[.slice a l.length cap] w fun e w' => e = .returned (duo .u32 (rsh l)) ∧ ∃ q, w' = w.drewN q := by
  by_cases h4 : l.length < 4
  · have HZ : Hid (rsh l = (0, 2)) := by show _ = _; unfold rsh; rw [if_pos h4]
    clear hc hb
    go_enter Tryz.func93, Tryz.ntmps93
    go_wp2
    go_ret2
    exact ⟨duo_ret HZ.out rfl rfl, 0, rfl⟩
  · rcases hc with rfl | ⟨b, off, rfl, hc⟩
    · simp at h4
    have h := rsr_four b off l.length cap (l.getD 0 0) (l.getD 1 0) (l.getD 2 0) (l.getD 3 0) (by omega) w (hc 0 (by omega)) (hc 1 (by omega)) (hc 2 (by omega)) (hc 3 (by omega)) (oct_get hb 0) (oct_get hb 1) (oct_get hb 2) (oct_get hb 3)
    unfold rsh
    rw [if_neg h4, take4 l (by omega)]
    exact h
theorem num8 (l : List Nat) (h : 8 ≤ l.length) : num (l.take 8) = num (l.take 4) * 4294967296 + num ((l.drop 4).take 4) := by
  have e : l.take 8 = l.take 4 ++ (l.drop 4).take 4 := by
    rw [show (8 : Nat) = 4 + 4 from rfl, List.take_add]
  have hl : ((l.drop 4).take 4).length = 4 := by simp; omega
  rw [e, num_app, hl]
set_option maxRecDepth 8000 in
set_option maxHeartbeats 400000 in
theorem rbr_any (a : Option Addr) (cap : Nat) (l : List Nat) (hn : l.length ≤ 1000000) (hlc : l.length ≤ cap) (hcm : cap ≤ 9223372036854775807) (w : World) (hc : Byt w a l) (hb : Oct l) :
    Calls Tryz.prog 49 #[.slice a l.length cap] w fun e w' => e = .returned (duo .u64 (rbg l)) ∧ ∃ q, w' = w.drewN q := by
  by_cases h8 : l.length < 8
  · have HZ : Hid (rbg l = (0, 2)) := by show _ = _; unfold rbg; rw [if_pos h8]
    clear hc hb
    go_enter Tryz.func49, Tryz.ntmps49
    go_wp2
    go_ret2
    exact ⟨duo_ret HZ.out rfl rfl, 0, rfl⟩
  · rcases hc with rfl | ⟨b, off, rfl, hc⟩
    · simp at h8
    have HZ : Hid (rbg l = (num (l.take 4) * 4294967296 + num ((l.drop 4).take 4), 0)) := by show _ = _; unfold rbg; rw [if_neg h8, num8 l (by omega)]
    have hA : Hid (∀ W, Cells W b off l → Calls Tryz.prog 93 #[.slice (some ⟨b, off, none⟩) l.length cap] W fun e w' => e = .returned (.tuple #[.int .u32 ((num (l.take 4) : Nat) : Int), .int .i64 0]) ∧ ∃ q, w' = W.drewN q) := fun W hW => by
      have h := rsr_any _ cap l hn W (.inr ⟨b, off, rfl, hW⟩) hb
      rw [show rsh l = (num (l.take 4), 0) by unfold rsh; rw [if_neg (by omega)]] at h
      exact h
    have hB : Hid (∀ W, Cells W b off l → Calls Tryz.prog 93 #[.slice (some ⟨b, off + 4, none⟩) (l.length - 4) (cap - 4)] W fun e w' => e = .returned (.tuple #[.int .u32 ((num ((l.drop 4).take 4) : Nat) : Int), .int .i64 0]) ∧ ∃ q, w' = W.drewN q) := fun W hW => by
      have h := rsr_any (some ⟨b, off + 4, none⟩) (cap - 4) (l.drop 4) (by simp; omega) W (.inr ⟨b, off + 4, rfl, hW.drop 4⟩) (oct_drop hb 4)
      rw [show rsh (l.drop 4) = (num ((l.drop 4).take 4), 0) by unfold rsh; rw [if_neg (by simp; omega)], List.length_drop] at h
      exact h
    have l1 : num (l.take 4) < 4294967296 := by
      have := num_lt (l.take 4) (oct_take hb 4)
      rw [show (l.take 4).length = 4 by rw [List.length_take]; omega] at this
      exact this
    have l2 : num ((l.drop 4).take 4) < 4294967296 := by
      have := num_lt ((l.drop 4).take 4) (oct_take (oct_drop hb 4) 4)
      rw [show ((l.drop 4).take 4).length = 4 by simp; omega] at this
      exact this
    generalize num (l.take 4) = x1, num ((l.drop 4).take 4) = x2 at HZ hA hB l1 l2
    obtain ⟨y, hy, HY⟩ : ∃ y : Nat, bits .or .u64 ((x1 : Int) * 4294967296) (x2 : Int) = (y : Int) ∧ Hid (y = x1 * 4294967296 + x2) :=
      ⟨x1 * 4294967296 + x2, by rw [show ((x1 : Int) * 4294967296) = ((x1 * 4294967296 : Nat) : Int) by omega]; exact or_u64 32 _ x2 (by omega) (by omega) (by omega) (by omega), rfl⟩
    have hn8 : (8 : Int) ≤ (l.length : Int) := by omega
    have hc8 : (8 : Int) ≤ (cap : Int) := by omega
    have hlc' : (l.length : Int) ≤ (cap : Int) := by omega
    have hc4 : ¬ cap = 4 := by omega
    have HC : Hid (Cells w b off l) := hc
    clear hb hc h8
    go_enter Tryz.func49, Tryz.ntmps49
    go_wp2_with fail
    refine (hA.out w HC.out).mono ?_
    rintro e w1 ⟨rfl, q, rfl⟩
    go_wp2_with fail
    refine (hB.out (w.drewN q) (fun i hi => HC.out i hi)).mono ?_
    rintro e w1 ⟨rfl, q2, rfl⟩
    go_wp2
    go_ret2
    exact ⟨duo_ret HZ.out (by rw [HY.out]) rfl, q + q2, rfl⟩
end Go.Proofs.YtmlfhplhiedfjaaGreatDoor
namespace Go.Proofs.YtmlfhplhiedfjaaGreatDoor
open Go.RowKit Math
set_option linter.unusedVariables false
set_option linter.unusedSimpArgs false
theorem eight (B : List Nat) (h : B.length = 8) : ∃ a b c d e f g i, B = [a, b, c, d, e, f, g, i] := by
  match B, h with
  | [a, b, c, d, e, f, g, i], _ => exact ⟨a, b, c, d, e, f, g, i, rfl⟩
theorem hf_num (B : List Nat) (h : B.length = 8) (ho : Oct B) : hf (num B) 8 = B := by
  obtain ⟨a, b, c, d, e, f, g, i, rfl⟩ := eight B h
  have h1 := ho a (by simp)
  have h2 := ho b (by simp)
  have h3 := ho c (by simp)
  have h4 := ho d (by simp)
  have h5 := ho e (by simp)
  have h6 := ho f (by simp)
  have h7 := ho g (by simp)
  have h8 := ho i (by simp)
  rw [hf_eight]
  simp only [num, List.foldl_cons, List.foldl_nil, List.cons.injEq, and_true]
  omega
theorem num_hf (v : Nat) (h : v < 18446744073709551616) : num (hf v 8) = v := by
  rw [hf_eight]
  simp only [num, List.foldl_cons, List.foldl_nil]
  omega
abbrev RdT (l : List Nat) (bad : Bool) (l' : List Nat) (bad' : Bool) (n : Int) : Prop := Rd (fun n : Int => hf n.toNat 8) (fun n => 0 ≤ n) (fun n => 0 ≤ n ∧ n ≤ 9007199254740992) l bad l' bad' n
theorem rdT_mk {l l' : List Nat} {bad : Bool} {B : List Nat} (hl : l = B ++ l') (h8 : B.length = 8) (ho : Oct B) : RdT l bad l' bad (wrap64 ((num B : Nat) : Int)) := by
  have hlt := num_lt B ho
  rw [h8] at hlt
  refine ⟨⟨B, hl⟩, fun hb => ⟨hb, fun h0 => ?_⟩, fun hb n m ⟨n0, n1⟩ e => ⟨hb, ?_⟩⟩
  · have : (wrap64 ((num B : Nat) : Int)).toNat = num B := by
      unfold wrap64 at h0 ⊢
      omega
    rw [this, hf_num B h8 ho, hl]
  · rw [hl] at e
    obtain ⟨e1, e2⟩ := List.append_inj e (by rw [h8, hf_length])
    refine ⟨?_, e2⟩
    rw [e1, num_hf _ (by omega)]
    unfold wrap64
    omega
theorem rdT_no {l : List Nat} {bad : Bool} (h : l.length < 8) (n : Int) : RdT l bad l true n := by
  refine ⟨⟨[], rfl⟩, fun e => (by cases e), fun hb n m _ e => ?_⟩
  exfalso
  have := congrArg List.length e
  rw [List.length_append, hf_length] at this
  omega
set_option maxRecDepth 8000 in
set_option maxHeartbeats 1000000 in
theorem time_any (r : Nat) (k : ByteArray) (i : Nat) (hi : i ≤ k.size) (hN : k.size ≤ 1000000000) (bad : Bool) (W : World) (hb : Blk W r 58 [.string k, .int .i64 (i : Int), .bool bad]) :
    Calls Tryz.prog 44 #[.pointer (some ⟨r, 0, none⟩)] W fun e w' => ∃ n j bad', e = .returned (.int .i64 n) ∧ -9223372036854775808 ≤ n ∧ n < 9223372036854775808 ∧ Hid (Ko r k W w' j bad' ∧ RdT ((bts k).drop i) bad ((bts k).drop j) bad' n) := by
  by_cases h8 : i + 8 ≤ k.size
  · have K := take_ok r k i 8 (i + 8) rfl h8 hN bad W hb
    have hB : bts (k.extract i (i + 8)) = ((bts k).drop i).take 8 := bts_mid k i 8 h8
    have hsz : (k.extract i (i + 8)).size = 8 := by simp [ByteArray.size_extract]; omega
    have HF : Hid (RdT ((bts k).drop i) bad ((bts k).drop (i + 8)) bad (wrap64 ((num (bts (k.extract i (i + 8))) : Nat) : Int))) := by
      refine rdT_mk ?_ (by rw [bts_len]; exact hsz) (bts_oct _)
      rw [hB, show (bts k).drop (i + 8) = ((bts k).drop i).drop 8 by rw [List.drop_drop], List.take_append_drop]
    have hnl := num_lt (bts (k.extract i (i + 8))) (bts_oct _)
    rw [bts_len, hsz] at hnl
    have hnl2 : num (bts (k.extract i (i + 8))) < 18446744073709551616 := hnl
    clear hb hB hnl
    generalize k.extract i (i + 8) = S at *
    go_enter Tryz.func44, Tryz.ntmps44
    go_wp2_with fail
    refine K.mono ?_
    rintro e w1 ⟨rfl, H1⟩
    obtain ⟨c, w2, hcv, hc1, hc2, hbl, hcl, hfz⟩ := conv_sb S (by omega) w1
    have HK2 : Hid (Ko r k W w2 (i + 8) bad) := H1.out.below hbl
    have K := rb_any (some ⟨w1.heap.size, 0, none⟩) c (bts S) (by rw [bts_len]; omega) (by rw [bts_len]; exact hc1) w2 (.inr ⟨_, _, rfl, hcl⟩) (bts_oct S)
    rw [show rbg (bts S) = (num (bts S), 0) by unfold rbg; rw [if_neg (by rw [bts_len]; omega), List.take_of_length_le (by rw [bts_len]; omega)], bts_len, hsz] at K
    rw [hsz] at hcv
    have K2 : Calls Tryz.prog 89 #[.slice (some ⟨w1.heap.size, 0, none⟩) 8 c] w2 fun e w' => e = .returned (.tuple #[.int .u64 ((num (bts S) : Nat) : Int), .int .i64 0]) ∧ w' = w2 := K
    clear K hcl hfz hbl H1
    generalize num (bts S) = u at *
    go_wp2_with fail
    refine K2.mono ?_
    rintro e w3 ⟨rfl, rfl⟩
    clear K2
    go_wp2
    go_ret
    exact ⟨_, i + 8, bad, rfl, by unfold wrap64; omega, by unfold wrap64; omega, HK2.out, HF.out⟩
  · have K := take_no r k i 8 hi (by omega) hN (by omega) bad W hb
    have HF : Hid (RdT ((bts k).drop i) bad ((bts k).drop i) true 0) := rdT_no (by rw [List.length_drop, bts_len]; omega) 0
    clear hb
    go_enter Tryz.func44, Tryz.ntmps44
    go_wp2_with fail
    refine K.mono ?_
    rintro e w1 ⟨rfl, H1⟩
    obtain ⟨c, w2, hcv, hc1, hc2, hbl, hcl, hfz⟩ := conv_sb ⟨#[]⟩ (by decide) w1
    have HK2 : Hid (Ko r k W w2 i true) := H1.out.below hbl
    have K := rb_any (some ⟨w1.heap.size, 0, none⟩) c [] (by simp) (by simp) w2 (.inl rfl) (by intro y hy; cases hy)
    have K2 : Calls Tryz.prog 89 #[.slice (some ⟨w1.heap.size, 0, none⟩) 0 c] w2 fun e w' => e = .returned (.tuple #[.int .u64 0, .int .i64 2]) ∧ w' = w2 := K
    have hz : (⟨#[]⟩ : ByteArray).size = 0 := rfl
    rw [hz] at hcv
    clear K hcl hfz hbl H1
    go_wp2_with fail
    refine K2.mono ?_
    rintro e w3 ⟨rfl, rfl⟩
    clear K2
    go_wp2
    go_ret
    exact ⟨0, i, true, rfl, by omega, by omega, HK2.out, HF.out⟩
end Go.Proofs.YtmlfhplhiedfjaaGreatDoor
namespace Go.Proofs.YtmlfhplhiedfjaaGreatDoor
open Go.RowKit Math
set_option linter.unusedVariables false
set_option linter.unusedSimpArgs false
/-- A value that was read. -/
structure Oo (dp : Int) (r : Nat) (k : ByteArray) (W w' : World) (i : Nat) (bad : Bool) (p : Vt) (na : Option Addr) (nc : Nat) (ka : Option Addr) (kc : Nat) (j : Nat) (bad' : Bool) : Prop where
  ko : Ko r k W w' j bad'
  vl : ∃ Lp, VlL w' p na nc ka kc Lp ∧ ∀ x ∈ Lp, W.heap.size ≤ x ∧ x < w'.heap.size
  wf : WfV p
  vr : Vr True dp ((bts k).drop i) bad ((bts k).drop j) bad' p
def OvC (dp : Int) : Prop := ∀ (r : Nat) (k : ByteArray) (i : Nat) (bad : Bool) (W : World), i ≤ k.size → k.size ≤ 1000000000 → r ≠ 0 → Mx W → Blk W r 58 [.string k, .int .i64 (i : Int), .bool bad] →
  Calls Tryz.prog 27 #[.pointer (some ⟨r, 0, none⟩), .int .i64 dp] W fun e w' => ∃ p na nc ka kc j bad', e = .returned (.agg #[.int .i64 p.1.k, .int .i64 p.1.n, .int .i64 p.1.s, .string p.1.t, .slice na p.1.ns.length nc, .slice ka p.2.list.length kc]) ∧ Hid (Oo dp r k W w' i bad p na nc ka kc j bad')
/-- A nest that was read. -/
structure Ox (b : Bool) (dp : Int) (kd : Int) (r : Nat) (k : ByteArray) (W w' : World) (i : Nat) (bad : Bool) (f : Fo) (ns : List ByteArray) (na : Option Addr) (nc : Nat) (ka : Option Addr) (kc : Nat) (j : Nat) (bad' : Bool) : Prop where
  ko : Ko r k W w' j bad'
  vl : ∃ Lp, VlL w' (nst kd (f, ns)) na nc ka kc Lp ∧ ∀ x ∈ Lp, W.heap.size ≤ x ∧ x < w'.heap.size
  wf : WfV (nst kd (f, ns))
  rd : Rd (encN b) (fun x => True ∧ chk0 x.1 = 0) (NsOk b dp) ((bts k).drop i) bad ((bts k).drop j) bad' (f, ns)
/-- How many kids there are. -/
def kln (g : Nat) (w : World) : Nat := match w.cell? ⟨g, 5, none⟩ with
  | some (.slice _ n _) => n
  | _ => 0
theorem kln_of {g n c : Nat} {a : Option Addr} {w : World} (h : w.cell? ⟨g, 5, none⟩ = some (.slice a n c)) : kln g w = n := by unfold kln; rw [h]
theorem rb_yes (k : ByteArray) (j x : Nat) (hj : j < k.size) (hx : (k[j]'hj).toNat = x) : Rb ((bts k).drop j) false ((bts k).drop (j + 1)) false x := by
  have hd := bts_drop k j hj
  rw [hx] at hd
  exact ⟨⟨[x], hd⟩, fun _ => ⟨rfl, fun _ => hd⟩, fun _ y m _ hl => by
    rw [hd] at hl
    injection hl with h1 h2
    exact ⟨rfl, h1, h2⟩⟩
theorem rb_no (k : ByteArray) (j x : Nat) (h : ¬ ∃ hj : j < k.size, (k[j]'hj).toNat = x) : ∀ t, (bts k).drop j ≠ x :: t := fun t e => by
  by_cases hlt : j < k.size
  · rw [bts_drop k j hlt] at e
    injection e with e _
    exact h ⟨hlt, e⟩
  · rw [List.drop_of_length_le (by rw [bts_len]; omega)] at e
    cases e
theorem nst_wf (kd : Int) (h0 : 0 ≤ kd) (h1 : kd ≤ 9) {f : Fo} {ns : List ByteArray} (hf : Wf f) (hl : f.list.length ≤ 100000) (hn : ns.length ≤ 100000) (hs : ∀ x ∈ ns, x.size ≤ 1000000000) : WfV (nst kd (f, ns)) :=
  ⟨⟨by show (-9223372036854775808 : Int) ≤ kd; omega, by show kd < 9223372036854775808; omega, by show (-9223372036854775808 : Int) ≤ 0; omega, by show (0 : Int) < 9223372036854775808; omega, by show (-9223372036854775808 : Int) ≤ 0; omega, by show (0 : Int) < 9223372036854775808; omega, by show em.size ≤ _; decide, by show ns.length ≤ _; omega, fun x hx => by have := hs x hx; omega⟩, by show f.list.length ≤ _; omega, hf⟩
end Go.Proofs.YtmlfhplhiedfjaaGreatDoor
