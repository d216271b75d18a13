/-
  The contract of the document's own ReadUvarint: it answers what octet.ReadUvarint does.
-/
import Derived.Test.YtimddoaejldgaaaOruv
namespace Go.Proofs.Ytimddoaejldgaaa
open Go.RowKit Math
theorem ruv_ten (x v : Nat) (l : List Nat) (h : 127 < x) : ruv (x :: l) 9 v = (0, 0, 3) := ruv_nine x 9 v l rfl (by omega)
set_option maxRecDepth 8000 in
set_option maxHeartbeats 400000 in
theorem ruvr_any (a : Option Addr) (cap : Nat) (l : List Nat) (hn : l.length ≤ 1000000) (w : World) (hc : Byt w a l) (hb : Oct l) :
    Calls Try.prog 67 #[.slice a l.length cap] w fun e w' => e = .returned (tri (ruv l 0 0)) ∧ w' = w := by
  go_enter Try.func67, Try.ntmps67
  go_wp2
  go_loop [5, 6] (fun s i => ∃ k v : Nat, k ≤ 10 ∧ i = .int .i64 k ∧ s = .int .u64 v ∧ v < 18446744073709551616 ∧ ((k < 10 ∧ k ≤ l.length ∧ Hid (ruv l 0 0 = ruv (l.drop k) k v)) ∨ (k = 10 ∧ Hid (ruv l 0 0 = (0, 0, 3))))) (fun _ i => 10 - (intOf i).toNat)
  case atStart => exact ⟨0, 0, by omega, rfl, rfl, by omega, .inl ⟨by omega, by omega, rfl⟩⟩
  case round =>
    obtain ⟨k, v, hk, rfl, rfl, hv, ⟨hk9, hkl, HR⟩ | ⟨hk10, HR⟩⟩ := hrel
    · by_cases hlt : k < l.length
      · rcases hc with rfl | ⟨b, off, rfl, hc⟩
        · simp at hlt
        have hck := hc k hlt
        have hx := oct_get hb k
        have HD : Hid (ruv l 0 0 = ruv (l.getD k 0 :: l.drop (k + 1)) k v) := by show _ = _; rw [HR.out, drop_get l k hlt]
        have hkl : ((k : Int) == (l.length : Int)) = false := by simp; omega
        generalize l.getD k 0 = x at hx hck HD
        obtain ⟨v', he, hv', hd⟩ : ∃ v' : Nat, bits .or .u64 (v : Int) (IntKind.u64.wrap (IntKind.u64.wrap (bits .and .u8 (x : Int) 127) * 2 ^ (7 * k))) = (v' : Int) ∧ v' < 18446744073709551616 ∧ Hid (v' = acc v x k) :=
          ⟨_, acc_bits v x k hv hx, acc_lt v x k hv, rfl⟩
        clear hb hc HR
        by_cases h127 : 127 < x
        · have HZ : Hid ((k + 1 < 10 ∧ k + 1 ≤ l.length ∧ Hid (ruv l 0 0 = ruv (l.drop (k + 1)) (k + 1) v')) ∨ (k + 1 = 10 ∧ Hid (ruv l 0 0 = (0, 0, 3)))) := by
            by_cases h9 : k = 9
            · right; subst h9; exact ⟨rfl, HD.out.trans (ruv_ten x v _ h127)⟩
            · left; exact ⟨by omega, by omega, by show _ = _; rw [HD.out, ruv_more _ _ _ _ (by omega) h127, hd.out]⟩
          clear HD
          go_wp2
          go_round
          case rel => exact ⟨k + 1, v', by omega, by go_num, rfl, hv', HZ.out⟩
          case measure => simp [intOf]; omega
        · have hx0 : ((x : Int) == 0) = true ∨ ((x : Int) == 0) = false := by cases ((x : Int) == 0) <;> simp
          by_cases h9 : ((k : Int) == 9) = true
          · have hk9' : k = 9 := by simp at h9; omega
            have hk0 : 0 < k := by omega
            by_cases hx1 : x ≤ 1
            · rcases hx0 with hx0 | hx0
              · have hx00 : x = 0 := by simpa using hx0
                have HZ : Hid (ruv l 0 0 = (0, 0, 3)) := by show _ = _; rw [HD.out, ruv_zero _ _ _ _ hk0 hx00]
                clear HD hk9' hx00
                go_wp2
                go_ret3
                exact ⟨tri_ret HZ.out rfl rfl rfl, rfl⟩
              · have hx00 : ¬ x = 0 := by simpa using hx0
                have HZ : Hid (ruv l 0 0 = (v', k + 1, 0)) := by show _ = _; rw [HD.out, ruv_end _ _ _ _ (by omega) (by omega) (by omega), hd.out]
                clear HD hk9' hx00
                go_wp2
                go_ret3
                exact ⟨tri_ret HZ.out rfl (by omega) rfl, rfl⟩
            · have HZ : Hid (ruv l 0 0 = (0, 0, 3)) := by show _ = _; rw [HD.out, ruv_nine _ _ _ _ hk9' (by omega)]
              clear HD hk9' hx0
              go_wp2
              go_ret3
              exact ⟨tri_ret HZ.out rfl rfl rfl, rfl⟩
          · have hk9' : ¬ k = 9 := by intro h; subst h; simp at h9
            have h9 : ((k : Int) == 9) = false := by simpa using h9
            by_cases hk0 : 0 < k
            · rcases hx0 with hx0 | hx0
              · have hx00 : x = 0 := by simpa using hx0
                have HZ : Hid (ruv l 0 0 = (0, 0, 3)) := by show _ = _; rw [HD.out, ruv_zero _ _ _ _ hk0 hx00]
                clear HD hk9' hx00
                go_wp2
                go_ret3
                exact ⟨tri_ret HZ.out rfl rfl rfl, rfl⟩
              · have hx00 : ¬ x = 0 := by simpa using hx0
                have HZ : Hid (ruv l 0 0 = (v', k + 1, 0)) := by show _ = _; rw [HD.out, ruv_end _ _ _ _ (by omega) (by omega) (by omega), hd.out]
                clear HD hk9' hx00
                go_wp2
                go_ret3
                exact ⟨tri_ret HZ.out rfl (by omega) rfl, rfl⟩
            · have HZ : Hid (ruv l 0 0 = (v', k + 1, 0)) := by show _ = _; rw [HD.out, ruv_end _ _ _ _ (by omega) (by omega) (by omega), hd.out]
              clear HD hk9' hx0
              go_wp2
              go_ret3
              exact ⟨tri_ret HZ.out rfl (by omega) rfl, rfl⟩
      · have HZ : Hid (ruv l 0 0 = (0, 0, 2)) := by show _ = _; rw [HR.out, List.drop_of_length_le (by omega)]; rfl
        have hkl : ((k : Int) == (l.length : Int)) = true := by simp; omega
        clear HR hc hb
        go_wp2
        go_ret3
        exact ⟨tri_ret HZ.out rfl rfl rfl, rfl⟩
    · have hk10 : ¬ ((k : Int) < 10) := by omega
      clear hc hb
      go_wp2
      go_ret3
      exact ⟨tri_ret HR.out rfl rfl rfl, rfl⟩
end Go.Proofs.Ytimddoaejldgaaa
