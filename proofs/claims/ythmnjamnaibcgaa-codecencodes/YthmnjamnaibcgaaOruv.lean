/-
  The contract of octet.ReadUvarint: any bytes as a number, or refused.
-/
import Derived.Test.YthmnjamnaibcgaaObase
namespace Go.Proofs.Ythmnjamnaibcgaa
open Go.RowKit Math
def tri (r : Nat × Nat × Nat) : Value := .tuple #[.int .u64 r.1, .int .i64 r.2.1, .int .i64 r.2.2]
theorem tri_ret {r : Nat × Nat × Nat} {a b c : Nat} (h : r = (a, b, c)) {x y z : Int} (hx : x = a) (hy : y = b) (hz : z = c) : Ending.returned (.tuple #[.int .u64 x, .int .i64 y, .int .i64 z]) = Ending.returned (tri r) := by
  subst h hx hy hz; rfl
set_option maxHeartbeats 400000 in
theorem ruv_any (a : Option Addr) (cap : Nat) (l : List Nat) (hn : l.length ≤ 1000000) (w : World) (hc : Byt w a l) (hb : Oct l) :
    Calls Try.prog 58 #[.slice a l.length cap] w fun e w' => e = .returned (tri (ruv l 0 0)) ∧ w' = w := by
  go_enter Try.func58, Try.ntmps58
  go_wp2
  go_loop [5, 10] (fun s i => ∃ k v : Nat, k ≤ l.length ∧ k ≤ 9 ∧ i = .int .i64 k ∧ s = .int .u64 v ∧ v < 18446744073709551616 ∧ Hid (ruv l 0 0 = ruv (l.drop k) k v)) (fun _ i => l.length - (intOf i).toNat)
  case atStart => exact ⟨0, 0, by omega, by omega, rfl, rfl, by omega, rfl⟩
  case round =>
    obtain ⟨k, v, hk, hk9, rfl, rfl, hv, HR⟩ := hrel
    by_cases hlt : k < l.length
    · rcases hc with rfl | ⟨b, off, rfl, hc⟩
      · simp at hlt
      have hck := hc k hlt
      have hx := oct_get hb k
      have HD : Hid (ruv l 0 0 = ruv (l.getD k 0 :: l.drop (k + 1)) k v) := by show _ = _; rw [HR.out, drop_get l k hlt]
      generalize l.getD k 0 = x at hx hck HD
      obtain ⟨v', he, hv', hd⟩ : ∃ v' : Nat, bits .or .u64 (v : Int) (IntKind.u64.wrap (IntKind.u64.wrap (bits .and .u8 (x : Int) 127) * 2 ^ (7 * k))) = (v' : Int) ∧ v' < 18446744073709551616 ∧ Hid (v' = acc v x k) :=
        ⟨_, acc_bits v x k hv hx, acc_lt v x k hv, rfl⟩
      clear hb hc HR
      by_cases h9 : ((k : Int) == 9) = true
      · have hk9' : k = 9 := by simp at h9; omega
        have hk0 : 0 < k := by omega
        by_cases hx1 : x ≤ 1
        · have hx0 : ((x : Int) == 0) = true ∨ ((x : Int) == 0) = false := by cases ((x : Int) == 0) <;> simp
          rcases hx0 with hx0 | hx0
          · have hx00 : x = 0 := by simpa using hx0
            have HZ : Hid (ruv l 0 0 = (0, 0, 3)) := by show _ = _; rw [HD.out, ruv_zero _ _ _ _ (by omega) hx00]
            clear HD hk9' hx00
            go_wp2
            go_ret3
            exact ⟨tri_ret HZ.out rfl rfl rfl, rfl⟩
          · have hx00 : ¬ x = 0 := by simpa using hx0
            have HZ : Hid (ruv l 0 0 = (v', k + 1, 0)) := by show _ = _; rw [HD.out, ruv_end _ _ _ _ (by omega) (by omega) (by omega), hd.out]
            clear HD hk9' hx00
            go_wp2
            go_ret3
            exact ⟨tri_ret HZ.out rfl (by omega) rfl, rfl⟩
        · have HZ : Hid (ruv l 0 0 = (0, 0, 3)) := by show _ = _; rw [HD.out, ruv_nine _ _ _ _ hk9' (by omega)]
          clear HD hk9'
          go_wp2
          go_ret3
          exact ⟨tri_ret HZ.out rfl rfl rfl, rfl⟩
      · have hk9' : ¬ k = 9 := by intro h; subst h; simp at h9
        have h9 : ((k : Int) == 9) = false := by simpa using h9
        by_cases h127 : 127 < x
        · have HZ : Hid (ruv l 0 0 = ruv (l.drop (k + 1)) (k + 1) v') := by show _ = _; rw [HD.out, ruv_more _ _ _ _ (by omega) h127, hd.out]
          have hk9' : k < 9 := by omega
          clear HD
          go_wp2
          go_round
          case rel => exact ⟨k + 1, v', by omega, by omega, by go_num, rfl, hv', HZ⟩
          case measure => simp [intOf]; omega
        · have hx0 : ((x : Int) == 0) = true ∨ ((x : Int) == 0) = false := by cases ((x : Int) == 0) <;> simp
          by_cases hk0 : 0 < k
          · rcases hx0 with hx0 | hx0
            · have hx00 : x = 0 := by simpa using hx0
              have HZ : Hid (ruv l 0 0 = (0, 0, 3)) := by show _ = _; rw [HD.out, ruv_zero _ _ _ _ hk0 hx00]
              clear HD hk9' hx00
              go_wp2
              go_ret3
              exact ⟨tri_ret HZ.out rfl rfl rfl, rfl⟩
            · have hx00 : ¬ x = 0 := by simpa using hx0
              have HZ : Hid (ruv l 0 0 = (v', k + 1, 0)) := by show _ = _; rw [HD.out, ruv_end _ _ _ _ (by omega) (by omega) (by omega), hd.out]
              clear HD hk9' hx00
              go_wp2
              go_ret3
              exact ⟨tri_ret HZ.out rfl (by omega) rfl, rfl⟩
          · have HZ : Hid (ruv l 0 0 = (v', k + 1, 0)) := by show _ = _; rw [HD.out, ruv_end _ _ _ _ (by omega) (by omega) (by omega), hd.out]
            clear HD hk9' hx0
            go_wp2
            go_ret3
            exact ⟨tri_ret HZ.out rfl (by omega) rfl, rfl⟩
    · have HZ : Hid (ruv l 0 0 = (0, 0, 2)) := by show _ = _; rw [HR.out, List.drop_of_length_le (by omega)]; rfl
      clear HR hc hb
      go_wp2
      go_ret3
      exact ⟨tri_ret HZ.out rfl rfl rfl, rfl⟩

end Go.Proofs.Ythmnjamnaibcgaa
