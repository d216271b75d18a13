/-
  The contracts of octet.Sum and of the document's own Sum: each returns the check sum of its bytes.
-/
import Derived.Test.YthgicnfhclfcjaaBase
namespace Go.Proofs.Ythgicnfhclfcjaa
open Go.RowKit Math

def tabO : Obj := .cells #[.int .u32 0, .int .u32 498536548, .int .u32 997073096, .int .u32 651767980, .int .u32 1994146192, .int .u32 1802195444, .int .u32 1303535960, .int .u32 1342533948, .int .u32 3988292384, .int .u32 4027552580, .int .u32 3604390888, .int .u32 3412177804, .int .u32 2607071920, .int .u32 2262029012, .int .u32 2685067896, .int .u32 3183342108] 61
def tabW (w : World) : World := w.alloc tabO
theorem tab_cell (w : World) : ∀ r : Nat, r < 16 → (tabW w).cell? ⟨w.heap.size, r, none⟩ = some (.int .u32 ((tab.getD r 0 : Nat) : Int)) := by
  intro r hr
  have h : ∀ r : Nat, r < 16 → (#[Value.int .u32 0, .int .u32 498536548, .int .u32 997073096, .int .u32 651767980, .int .u32 1994146192, .int .u32 1802195444, .int .u32 1303535960, .int .u32 1342533948, .int .u32 3988292384, .int .u32 4027552580, .int .u32 3604390888, .int .u32 3412177804, .int .u32 2607071920, .int .u32 2262029012, .int .u32 2685067896, .int .u32 3183342108])[r]? = some (.int .u32 ((tab.getD r 0 : Nat) : Int)) := by
    intro r hr
    match r, hr with
    | 0, _ | 1, _ | 2, _ | 3, _ | 4, _ | 5, _ | 6, _ | 7, _ | 8, _ | 9, _ | 10, _ | 11, _ | 12, _ | 13, _ | 14, _ | 15, _ => rfl
    | n + 16, h => omega
  have := h r hr
  unfold tabW tabO
  rw [World.cell?_alloc_new]
  exact this
theorem nib_step {wr : World} {B : Nat} (hTab : ∀ r : Nat, r < 16 → wr.cell? ⟨B, r, none⟩ = some (.int .u32 ((tab.getD r 0 : Nat) : Int))) (d : Nat) (hd : d < 4294967296) :
    ∃ r t d1 : Nat, bits .and .u32 (d : Int) 15 = (r : Int) ∧ r < 16 ∧ wr.cell? ⟨B, r, none⟩ = some (.int .u32 (t : Int)) ∧ bits .xor .u32 ((d : Int) / 16) (t : Int) = (d1 : Int) ∧ d1 < 4294967296 ∧ Hid (d1 = nib d) := by
  refine ⟨d % 16, tab.getD (d % 16) 0, nib d, ?_, by omega, hTab _ (by omega), ?_, nib_lt d hd, rfl⟩
  · have := u32_and_nat d 15 hd (by omega); rw [nat_mask4] at this; exact this
  · have := u32_xor_nat (d / 16) (tab.getD (d % 16) 0) (by omega) (tab_lt _ (by omega))
    rw [show ((d : Int) / 16) = ((d / 16 : Nat) : Int) by omega, this]; rfl
theorem crc_lt {l : List Nat} (hb : Oct l) (k : Nat) : crcT 4294967295 (l.take k) < 4294967296 := by
  rw [crc_eq]; exact crcB_lt _ _ (by decide) (fun x hx => hb x (List.mem_of_mem_take hx))

set_option maxHeartbeats 400000 in
theorem sum_any (a : Option Addr) (cap : Nat) (l : List Nat) (hn : l.length ≤ 1000000) (w : World) (hc : Byt w a l) (hb : Oct l) :
    Calls Try.prog 24 #[.slice a l.length cap] w fun e w' => e = .returned (.int .u32 ((4294967295 - crcT 4294967295 l : Nat) : Int)) ∧ w' = tabW w := by
  go_enter Try.func24, Try.ntmps24
  go_wp2
  go_loopw [4, 10] (fun s i wr => ∃ k c : Nat, k ≤ l.length ∧ i = .int .i64 k ∧ s = .int .u32 c ∧ c = crcT 4294967295 (l.take k) ∧ wr = tabW w) (fun _ i _ => l.length - (intOf i).toNat)
  case atStart => exact ⟨0, _, Nat.zero_le _, rfl, rfl, rfl, rfl⟩
  case round =>
    obtain ⟨k, c, hk, rfl, rfl, hcc, hw⟩ := hrel
    have HW : Hid (wr = tabW w) := hw
    have HC : Hid (c = crcT 4294967295 (l.take k)) := hcc
    have hc32 : c < 4294967296 := by rw [HC.out]; exact crc_lt hb k
    by_cases hlt : k < l.length
    · rcases hc with rfl | ⟨b, off, rfl, hc⟩
      · simp at hlt
      have hTab := tab_cell w
      have hck := hc k hlt
      rw [← World.cell?_alloc_past tabO _ _ (cell_lt hck)] at hck
      change (tabW w).cell? _ = _ at hck
      rw [← hw] at hTab hck
      clear hw hcc hc
      have hx := oct_get hb k
      have HN : Hid (crcT 4294967295 (l.take (k + 1)) = stT c (l.getD k 0)) := by
        show _ = _
        rw [take_snoc l k hlt, HC.out]; simp [crcT]
      generalize l.getD k 0 = x at hx hck HN
      clear HC hb
      obtain ⟨d, hd, hd32, hdd⟩ : ∃ d : Nat, bits .xor .u32 (c : Int) (x : Int) = (d : Int) ∧ d < 4294967296 ∧ Hid (d = c ^^^ x) :=
        ⟨c ^^^ x, u32_xor_nat c x hc32 (by omega), Nat.xor_lt_two_pow (n := 32) (by omega) (by omega), rfl⟩
      obtain ⟨r, t, d1, hr, hr16, ht, hd1, hd132, hdd1⟩ := nib_step hTab d hd32
      obtain ⟨r2, t2, d2, hr2, hr216, ht2, hd2, hd232, hdd2⟩ := nib_step hTab d1 hd132
      clear hTab
      go_wp2
      go_roundw
      case rel => exact ⟨k + 1, d2, by omega, by go_num, rfl, by rw [HN.out, hdd2.out, hdd1.out, hdd.out]; rfl, HW.out⟩
      case measure => simp [intOf]; omega
    · have hkl : l.take k = l := List.take_of_length_le (by omega)
      have HE : Hid (c = crcT 4294967295 l) := by show _ = _; rw [HC.out, hkl]
      clear HC hkl hw hcc hc hb
      go_wp2
      go_ret
      exact ⟨ret_int (by rw [not32 c hc32, HE.out]), HW.out⟩

set_option maxHeartbeats 400000 in
theorem sumr_any (a : Option Addr) (cap : Nat) (l : List Nat) (hn : l.length ≤ 1000000) (w : World) (hc : Byt w a l) (hb : Oct l) :
    Calls Try.prog 26 #[.slice a l.length cap] w fun e w' => e = .returned (.int .u32 ((4294967295 - crcB 4294967295 l : Nat) : Int)) ∧ w' = w := by
  go_enter Try.func26, Try.ntmps26
  go_wp2
  go_loop [3, 4] (fun s i => ∃ k c : Nat, k ≤ l.length ∧ i = .int .i64 k ∧ s = .int .u32 c ∧ c = crcB 4294967295 (l.take k)) (fun _ i => l.length - (intOf i).toNat)
  case atStart => exact ⟨0, _, Nat.zero_le _, rfl, rfl, rfl⟩
  case round =>
    obtain ⟨k, c, hk, rfl, rfl, hcc⟩ := hrel
    have HC : Hid (c = crcB 4294967295 (l.take k)) := hcc
    have hc32 : c < 4294967296 := by rw [HC.out]; exact crcB_lt _ _ (by decide) (fun x hx => hb x (List.mem_of_mem_take hx))
    by_cases hlt : k < l.length
    · rcases hc with rfl | ⟨b, off, rfl, hc⟩
      · simp at hlt
      have hck := hc k hlt
      have hx := oct_get hb k
      have HN : Hid (crcB 4294967295 (l.take (k + 1)) = stB c (l.getD k 0)) := by
        show _ = _
        rw [take_snoc l k hlt, HC.out]; simp [crcB]
      generalize l.getD k 0 = x at hx hck HN
      clear HC hb hcc hc
      obtain ⟨d, hd, hd32, hdd⟩ : ∃ d : Nat, bits .xor .u32 (c : Int) (x : Int) = (d : Int) ∧ d < 4294967296 ∧ Hid (d = c ^^^ x) :=
        ⟨c ^^^ x, u32_xor_nat c x hc32 (by omega), Nat.xor_lt_two_pow (n := 32) (by omega) (by omega), rfl⟩
      go_wp2
      go_loop [3, 5] (fun s i => ∃ j q : Nat, j ≤ 8 ∧ i = .int .i64 j ∧ s = .int .u32 q ∧ q = bitN j d) (fun _ i => 8 - (intOf i).toNat)
      case atStart => exact ⟨0, d, by omega, rfl, rfl, rfl⟩
      case round =>
        obtain ⟨j, q, hj, rfl, rfl, hq⟩ := hrel
        have HQ : Hid (q = bitN j d) := hq
        have hq32 : q < 4294967296 := by rw [HQ.out]; exact bitN_lt j d hd32
        clear hq
        by_cases hj8 : j < 8
        · rcases Nat.mod_two_eq_zero_or_one q with hp | hp
          · obtain ⟨e1, e2⟩ := bit1_ev q hq32 hp
            clear hp
            go_wp2
            go_round
            case rel => exact ⟨j + 1, bit1 q, by omega, by go_num, rfl, by rw [HQ.out]; rfl⟩
            case measure => simp [intOf]; omega
          · obtain ⟨e1, e2⟩ := bit1_odd q hq32 hp
            clear hp
            go_wp2
            go_round
            case rel => exact ⟨j + 1, bit1 q, by omega, by go_num, rfl, by rw [HQ.out]; rfl⟩
            case measure => simp [intOf]; omega
        · have HQ8 : Hid (q = stB c x) := by show _ = _; rw [HQ.out, show j = 8 by omega, hdd.out, bitN_8]
          go_wp2
          go_round
          case rel => exact ⟨k + 1, q, by omega, by go_num, rfl, by rw [HQ8.out, HN.out]⟩
          case measure => simp [intOf]; omega
    · have hkl : l.take k = l := List.take_of_length_le (by omega)
      have HE : Hid (c = crcB 4294967295 l) := by show _ = _; rw [HC.out, hkl]
      clear HC hkl hcc hc hb
      go_wp2
      go_ret
      exact ⟨ret_int (by rw [not32 c hc32, HE.out]), rfl⟩

end Go.Proofs.Ythgicnfhclfcjaa
