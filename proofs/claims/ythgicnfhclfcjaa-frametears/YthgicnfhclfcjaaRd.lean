/-
  The contracts of octet.join, ReadBig, ReadShort and of the document's own ReadBig, ReadShort.
-/
import Derived.Test.YthgicnfhclfcjaaSame
namespace Go.Proofs.Ythgicnfhclfcjaa
open Go.RowKit Math
/-- Bytes as a number, the highest first. -/
def num (l : List Nat) : Nat := l.foldl (fun v x => v * 256 + x) 0
theorem num_snoc (l : List Nat) (x : Nat) : num (l ++ [x]) = num l * 256 + x := by simp [num]
theorem num_app (l m : List Nat) : num (l ++ m) = num l * 256 ^ m.length + num m := by
  have key : ∀ (m : List Nat) (c : Nat), m.foldl (fun v x => v * 256 + x) c = c * 256 ^ m.length + m.foldl (fun v x => v * 256 + x) 0 := by
    intro m
    induction m with
    | nil => intro c; simp
    | cons x m ih =>
      intro c
      simp only [List.foldl_cons, List.length_cons]
      rw [ih (c * 256 + x), ih (0 * 256 + x), Nat.pow_succ, Nat.add_mul, Nat.zero_mul, Nat.zero_add, Nat.mul_assoc, Nat.mul_comm 256, Nat.add_assoc]
  unfold num
  rw [List.foldl_append, key]
theorem num_lt (l : List Nat) (h : Oct l) : num l < 256 ^ l.length := by
  induction l with
  | nil => decide
  | cons x l ih =>
    have e : num (x :: l) = x * 256 ^ l.length + num l := by
      have := num_app [x] l
      simpa [num] using this
    have h1 := ih (fun y hy => h y (by simp [hy]))
    have h2 : x < 256 := h x (by simp)
    have h3 : x * 256 ^ l.length ≤ 255 * 256 ^ l.length := Nat.mul_le_mul_right _ (by omega)
    rw [e, List.length_cons, Nat.pow_succ]
    omega
theorem or_u32 (i A B : Nat) (hA : A % 2 ^ i = 0) (hB : B < 2 ^ i) (hA' : A < 4294967296) (hB' : B < 4294967296) : bits .or .u32 (A : Int) (B : Int) = ((A + B : Nat) : Int) := by
  rw [u32_or_nat A B hA' hB', nat_join i A B hA hB]
theorem or_u64 (i A B : Nat) (hA : A % 2 ^ i = 0) (hB : B < 2 ^ i) (hA' : A < 18446744073709551616) (hB' : B < 18446744073709551616) : bits .or .u64 (A : Int) (B : Int) = ((A + B : Nat) : Int) := by
  rw [u64_or_nat A B hA' hB', nat_join i A B hA hB]
theorem quad (x0 x1 x2 x3 : Nat) (b0 : x0 < 256) (b1 : x1 < 256) (b2 : x2 < 256) (b3 : x3 < 256) :
    bits .or .u32 (bits .or .u32 (bits .or .u32 ((x0 : Int) * 16777216) ((x1 : Int) * 65536)) ((x2 : Int) * 256)) (x3 : Int) = ((num [x0, x1, x2, x3] : Nat) : Int) := by
  have e1 := or_u32 24 (x0 * 16777216) (x1 * 65536) (by omega) (by omega) (by omega) (by omega)
  have e2 := or_u32 16 (x0 * 16777216 + x1 * 65536) (x2 * 256) (by omega) (by omega) (by omega) (by omega)
  have e3 := or_u32 8 (x0 * 16777216 + x1 * 65536 + x2 * 256) x3 (by omega) (by omega) (by omega) (by omega)
  rw [show ((x0 : Int) * 16777216) = ((x0 * 16777216 : Nat) : Int) by omega, show ((x1 : Int) * 65536) = ((x1 * 65536 : Nat) : Int) by omega, show ((x2 : Int) * 256) = ((x2 * 256 : Nat) : Int) by omega, e1, e2, e3]
  simp only [num, List.foldl_cons, List.foldl_nil]
  omega
set_option maxRecDepth 8000 in
set_option maxHeartbeats 400000 in
theorem join_any (a : Option Addr) (n cap : Nat) (l : List Nat) (hl : l.length = n) (hn : n ≤ 8) (w : World) (hc : Byt w a l) (hb : Oct l) :
    Calls Try.prog 33 #[.slice a n cap] w fun e w' => e = .returned (.int .u64 ((num l : Nat) : Int)) ∧ w' = w := by
  subst hl
  go_enter Try.func33, Try.ntmps33
  go_wp2
  go_loop [3, 8] (fun s i => ∃ k v : Nat, k ≤ l.length ∧ i = .int .i64 k ∧ s = .int .u64 v ∧ Hid (v = num (l.take k))) (fun _ i => l.length - (intOf i).toNat)
  case atStart => exact ⟨0, 0, by omega, rfl, rfl, rfl⟩
  case round =>
    obtain ⟨k, v, hk, rfl, rfl, HV⟩ := hrel
    by_cases hlt : k < l.length
    · rcases hc with rfl | ⟨b, off, rfl, hc⟩
      · simp at hlt
      have hck := hc k hlt
      have hx := oct_get hb k
      have hv56 : v < 72057594037927936 := by
        rw [HV.out]
        refine Nat.lt_of_lt_of_le (num_lt _ (fun y hy => hb y (List.mem_of_mem_take hy))) ?_
        have : (l.take k).length ≤ 7 := by rw [List.length_take]; omega
        exact Nat.le_trans (Nat.pow_le_pow_right (by decide) this) (by decide)
      have HN : Hid (num (l.take (k + 1)) = v * 256 + l.getD k 0) := by show _ = _; rw [take_snoc l k hlt, num_snoc, HV.out]
      generalize l.getD k 0 = x at hx hck HN
      clear hb hc HV
      obtain ⟨y, hy, HY⟩ : ∃ y : Nat, bits .or .u64 ((v : Int) * 256) (x : Int) = (y : Int) ∧ Hid (y = v * 256 + x) :=
        ⟨v * 256 + x, by rw [show ((v : Int) * 256) = ((v * 256 : Nat) : Int) by omega]; exact or_u64 8 _ x (by omega) (by omega) (by omega) (by omega), rfl⟩
      go_wp2
      go_round
      case rel => exact ⟨k + 1, y, by omega, by go_num, rfl, by show _ = _; rw [HY.out, HN.out]⟩
      case measure => simp [intOf]; omega
    · have HE : Hid (v = num l) := by show _ = _; rw [HV.out, List.take_of_length_le (by omega)]
      clear HV hc hb
      go_wp2
      go_ret
      exact ⟨ret_int (by rw [HE.out]), rfl⟩

def duo (k : IntKind) (r : Nat × Nat) : Value := .tuple #[.int k r.1, .int .i64 r.2]
theorem duo_ret {k : IntKind} {r : Nat × Nat} {a b : Nat} (h : r = (a, b)) {x y : Int} (hx : x = a) (hy : y = b) : Ending.returned (.tuple #[.int k x, .int .i64 y]) = Ending.returned (duo k r) := by
  subst h hx hy; rfl
def rsh (l : List Nat) : Nat × Nat := if l.length < 4 then (0, 2) else (num (l.take 4), 0)
def rbg (l : List Nat) : Nat × Nat := if l.length < 8 then (0, 2) else (num (l.take 8), 0)
theorem oct_take {l : List Nat} (h : Oct l) (k : Nat) : Oct (l.take k) := fun y hy => h y (List.mem_of_mem_take hy)
theorem oct_drop {l : List Nat} (h : Oct l) (k : Nat) : Oct (l.drop k) := fun y hy => h y (List.mem_of_mem_drop hy)
theorem Cells.take {w : World} {b off : Nat} {l : List Nat} (h : Cells w b off l) (k : Nat) : Cells w b off (l.take k) := by
  have e : l = l.take k ++ l.drop k := (List.take_append_drop k l).symm
  exact Cells.left (m := l.drop k) (by rw [← e]; exact h)
theorem Cells.drop {w : World} {b off : Nat} {l : List Nat} (h : Cells w b off l) (k : Nat) : Cells w b (off + k) (l.drop k) := fun i hi => by
  rw [List.length_drop] at hi
  have := h (k + i) (by omega)
  rw [Nat.add_assoc, this]
  simp [List.getD_eq_getElem?_getD]
theorem take4 (l : List Nat) (h : 4 ≤ l.length) : l.take 4 = [l.getD 0 0, l.getD 1 0, l.getD 2 0, l.getD 3 0] := by
  match l, h with
  | a :: b :: c :: d :: l, _ => rfl

set_option maxRecDepth 8000 in
set_option maxHeartbeats 400000 in
theorem rs_any (a : Option Addr) (cap : Nat) (l : List Nat) (hn : l.length ≤ 1000000) (hlc : l.length ≤ cap) (w : World) (hc : Byt w a l) (hb : Oct l) :
    Calls Try.prog 28 #[.slice a l.length cap] w fun e w' => e = .returned (duo .u32 (rsh l)) ∧ w' = w := by
  by_cases h4 : l.length < 4
  · have HZ : Hid (rsh l = (0, 2)) := by show _ = _; unfold rsh; rw [if_pos h4]
    clear hc hb
    go_enter Try.func28, Try.ntmps28
    go_wp2
    go_ret2
    exact ⟨duo_ret HZ.out rfl rfl, rfl⟩
  · have HZ : Hid (rsh l = (num (l.take 4), 0)) := by show _ = _; unfold rsh; rw [if_neg h4]
    rcases hc with rfl | ⟨b, off, rfl, hc⟩
    · simp at h4
    have hcap : (4 : Int) ≤ (cap : Int) := by omega
    have hl4 : (l.take 4).length = 4 := by rw [List.length_take]; omega
    have hlt := num_lt (l.take 4) (oct_take hb 4)
    rw [hl4] at hlt
    have hJ := fun W => join_any (some ⟨b, off, none⟩) 4 cap (l.take 4) hl4 (by decide) W
    have HJ : Hid (∀ W, Byt W (some ⟨b, off, none⟩) (l.take 4) → Oct (l.take 4) → Calls Try.prog 33 #[.slice (some ⟨b, off, none⟩) 4 cap] W fun e w' => e = .returned (.int .u64 ((num (l.take 4) : Nat) : Int)) ∧ w' = W) := hJ
    have HB : Hid (Oct (l.take 4)) := oct_take hb 4
    have HC : Hid (Byt w (some ⟨b, off, none⟩) (l.take 4)) := .inr ⟨b, off, rfl, hc.take 4⟩
    have hlt' : num (l.take 4) < 4294967296 := hlt
    clear hlt hJ hl4 hc hb
    generalize num (l.take 4) = v at hlt' HZ HJ
    go_enter Try.func28, Try.ntmps28
    go_wp2_with fail
    refine (HJ.out _ HC.out HB.out).mono ?_
    rintro e w' ⟨rfl, rfl⟩
    go_wp2
    go_ret2
    exact ⟨duo_ret HZ.out rfl rfl, rfl⟩

set_option maxRecDepth 8000 in
set_option maxHeartbeats 400000 in
theorem rb_any (a : Option Addr) (cap : Nat) (l : List Nat) (hn : l.length ≤ 1000000) (hlc : l.length ≤ cap) (w : World) (hc : Byt w a l) (hb : Oct l) :
    Calls Try.prog 32 #[.slice a l.length cap] w fun e w' => e = .returned (duo .u64 (rbg l)) ∧ w' = w := by
  by_cases h8 : l.length < 8
  · have HZ : Hid (rbg l = (0, 2)) := by show _ = _; unfold rbg; rw [if_pos h8]
    clear hc hb
    go_enter Try.func32, Try.ntmps32
    go_wp2
    go_ret2
    exact ⟨duo_ret HZ.out rfl rfl, rfl⟩
  · have HZ : Hid (rbg l = (num (l.take 8), 0)) := by show _ = _; unfold rbg; rw [if_neg h8]
    rcases hc with rfl | ⟨b, off, rfl, hc⟩
    · simp at h8
    have hcap : (8 : Int) ≤ (cap : Int) := by omega
    have hl8 : (l.take 8).length = 8 := by rw [List.length_take]; omega
    have HJ : Hid (∀ W, Byt W (some ⟨b, off, none⟩) (l.take 8) → Oct (l.take 8) → Calls Try.prog 33 #[.slice (some ⟨b, off, none⟩) 8 cap] W fun e w' => e = .returned (.int .u64 ((num (l.take 8) : Nat) : Int)) ∧ w' = W) :=
      fun W => join_any (some ⟨b, off, none⟩) 8 cap (l.take 8) hl8 (by decide) W
    have HB : Hid (Oct (l.take 8)) := oct_take hb 8
    have HC : Hid (Byt w (some ⟨b, off, none⟩) (l.take 8)) := .inr ⟨b, off, rfl, hc.take 8⟩
    clear hl8 hc hb
    generalize num (l.take 8) = v at HZ HJ
    go_enter Try.func32, Try.ntmps32
    go_wp2_with fail
    refine (HJ.out _ HC.out HB.out).mono ?_
    rintro e w' ⟨rfl, rfl⟩
    go_wp2
    go_ret2
    exact ⟨duo_ret HZ.out rfl rfl, rfl⟩

set_option maxRecDepth 8000 in
set_option maxHeartbeats 400000 in
theorem rsr_four (b off n cap x0 x1 x2 x3 : Nat) (hn : 4 ≤ n) (w : World) (h0 : w.cell? ⟨b, off, none⟩ = some (.int .u8 (x0 : Int))) (h1 : w.cell? ⟨b, off + 1, none⟩ = some (.int .u8 (x1 : Int))) (h2 : w.cell? ⟨b, off + 2, none⟩ = some (.int .u8 (x2 : Int))) (h3 : w.cell? ⟨b, off + 3, none⟩ = some (.int .u8 (x3 : Int)))
    (b0 : x0 < 256) (b1 : x1 < 256) (b2 : x2 < 256) (b3 : x3 < 256) :
    Calls Try.prog 30 #[.slice (some ⟨b, off, none⟩) n cap] w fun e w' => e = .returned (duo .u32 (num [x0, x1, x2, x3], 0)) ∧ ∃ q, w' = w.drewN q := by
  have hn' : (4 : Int) ≤ (n : Int) := by omega
  have hq : Hid _ := quad x0 x1 x2 x3 b0 b1 b2 b3
  go_enter Try.func30, Try.ntmps30
  go_wp2
  go_quiet (fail)
  go_wp2
  go_ret2
  exact ⟨duo_ret rfl hq.out rfl, _, rfl⟩
set_option maxRecDepth 8000 in
set_option maxHeartbeats 400000 in
theorem rsr_any (a : Option Addr) (cap : Nat) (l : List Nat) (hn : l.length ≤ 1000000) (w : World) (hc : Byt w a l) (hb : Oct l) :
    Calls Try.prog 30 #[.slice a l.length cap] w fun e w' => e = .returned (duo .u32 (rsh l)) ∧ ∃ q, w' = w.drewN q := by
  by_cases h4 : l.length < 4
  · have HZ : Hid (rsh l = (0, 2)) := by show _ = _; unfold rsh; rw [if_pos h4]
    clear hc hb
    go_enter Try.func30, Try.ntmps30
    go_wp2
    go_ret2
    exact ⟨duo_ret HZ.out rfl rfl, 0, rfl⟩
  · rcases hc with rfl | ⟨b, off, rfl, hc⟩
    · simp at h4
    have h := rsr_four b off l.length cap (l.getD 0 0) (l.getD 1 0) (l.getD 2 0) (l.getD 3 0) (by omega) w (hc 0 (by omega)) (hc 1 (by omega)) (hc 2 (by omega)) (hc 3 (by omega)) (oct_get hb 0) (oct_get hb 1) (oct_get hb 2) (oct_get hb 3)
    unfold rsh
    rw [if_neg h4, take4 l (by omega)]
    exact h
theorem num8 (l : List Nat) (h : 8 ≤ l.length) : num (l.take 8) = num (l.take 4) * 4294967296 + num ((l.drop 4).take 4) := by
  have e : l.take 8 = l.take 4 ++ (l.drop 4).take 4 := by
    rw [show (8 : Nat) = 4 + 4 from rfl, List.take_add]
  have hl : ((l.drop 4).take 4).length = 4 := by simp; omega
  rw [e, num_app, hl]
end Go.Proofs.Ythgicnfhclfcjaa
