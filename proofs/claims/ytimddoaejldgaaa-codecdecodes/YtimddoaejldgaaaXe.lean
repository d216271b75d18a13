/-
  codec's reader: what uvarint, signed, truth, length read.
-/
import Derived.Test.YtimddoaejldgaaaXd
namespace Go.Proofs.Ytimddoaejldgaaa
open Go.RowKit Math
set_option linter.unusedVariables false
def RdP {α : Type} (F : Nat) (f : Rdr α) (val : α → Value) (P Z : α → Prop) : Prop := ∀ (w0 W : World) (r : Nat) (ab : Option Addr) (cb : Nat) (L : List Nat) (i : Nat) (err : Int), En w0 W r ab cb L → Blk W r 83 [.slice ab L.length cb, .int .i64 (i : Int), .int .i64 err] → i ≤ L.length → (err = 0 → 0 < L.length) →
  Calls Try.prog F #[.pointer (some ⟨r, 0, none⟩)] W fun e w' => ∃ x j err', e = .returned (val x) ∧ P x ∧ (err' ≠ 0 → Z x) ∧ Hid (Ro r ab cb L.length W w' j err' ∧ St f L i err j err' x)
theorem RdC.p {α : Type} {F : Nat} {f : Rdr α} {val : α → Value} {P Z : α → Prop} (h : RdC F f val P Z) : RdP F f val P Z := fun w0 W r ab cb L i err a b c _ => h w0 W r ab cb L i err a b c
theorem byt_drop {w : World} {bb ob : Nat} {L : List Nat} (h : Cells w bb ob L) (i : Nat) : Cells w bb (ob + i) (L.drop i) := fun k hk => by
  rw [List.length_drop] at hk
  have := h (i + k) (by omega)
  rw [Nat.add_assoc, this]
  simp [List.getD_eq_getElem?_getD, List.getElem?_drop]
theorem Cells.drewN {w : World} {bb ob : Nat} {L : List Nat} (h : Cells w bb ob L) (q : Nat) : Cells (w.drewN q) bb ob L := fun k hk => h k hk
theorem uvarint_any : RdP 64 uvR (fun u => .int .u64 (u : Int)) (· < 18446744073709551616) (· = 0) := by
  intro w0 W r ab cb L i err hE hb hi hp
  by_cases he : err = 0
  case neg =>
    refine (uv_err r ab cb L.length i err he W hb).mono ?_
    rintro e w' ⟨rfl, rfl⟩
    exact ⟨0, i, err, rfl, by decide, fun _ => rfl, ⟨hb, hi, World.grownBy.refl _ _⟩, .inl ⟨he, rfl, rfl⟩⟩
  subst he
  obtain ⟨bb, ob, rfl, hc⟩ := hE.ptr (hp rfl)
  have hoct : Oct (L.drop i) := fun x hx => hE.oct x (List.mem_of_mem_drop hx)
  have hcW : Cells W bb ob L := hc.below hE.bl
  obtain ⟨u, n, e, ht⟩ : ∃ u n e, ruv (L.drop i) 0 0 = (u, n, e) := ⟨_, _, _, rfl⟩
  have g1 : e ≠ 0 → u = 0 ∧ n = 0 := fun h => by
    have := ruv_bad (L.drop i) 0 0 (by rw [ht]; exact h)
    rw [ht] at this
    exact this
  have g2 : e = 0 → u < 18446744073709551616 ∧ n ≤ (L.drop i).length ∧ n ≤ 10 ∧ 0 < n := fun h => by
    have := ruv_good hoct (by rw [ht]; exact h)
    rw [ht] at this
    exact this
  have hu : u < 18446744073709551616 := by
    by_cases h : e = 0
    · exact (g2 h).1
    · rw [(g1 h).1]; decide
  have hn : n ≤ 10 := by
    by_cases h : e = 0
    · exact (g2 h).2.2.1
    · rw [(g1 h).2]; decide
  have hjN : i + n ≤ L.length := by
    by_cases h : e = 0
    · have := (g2 h).2.1
      rw [List.length_drop] at this
      omega
    · rw [(g1 h).2]; omega
  have hS : St uvR L i 0 (i + n) (e : Int) u := by
    right
    refine ⟨rfl, ?_⟩
    by_cases h : e = 0
    · left
      refine ⟨?_, by rw [h]; rfl, by omega⟩
      unfold uvR
      rw [ht]
      simp only [h, if_true]
      rw [List.drop_drop]
    · right
      refine ⟨e, ?_, rfl, h⟩
      unfold uvR
      rw [ht]
      simp only [h, if_false]
  have hlen := hE.len
  have KS : ∀ (A : Option Addr) (c : Nat), (∀ q, Byt (W.drewN q) A (L.drop i)) → ∀ q, Calls Try.prog 74 #[.slice A (L.length - i) c] (W.drewN q) fun e' w' => e' = .returned (.tuple #[.int .u64 (u : Int), .int .i64 (n : Int), .int .i64 (e : Int)]) ∧ w' = W.drewN q := fun A c hA q => by
    have := ruv_any A c (L.drop i) (by rw [List.length_drop]; omega) (W.drewN q) (hA q) hoct
    rw [List.length_drop, ht] at this
    exact this
  have fin : ∀ {e' : Ending} {w' : World}, (e' = .returned (.int .u64 (u : Int)) ∧ Hid (Ro r (some ⟨bb, ob, none⟩) cb L.length W w' (i + n) (e : Int))) → ∃ (x : Nat) (j : Nat) (err' : Int), e' = .returned (.int .u64 (x : Int)) ∧ x < 18446744073709551616 ∧ (err' ≠ 0 → x = 0) ∧ Hid (Ro r (some ⟨bb, ob, none⟩) cb L.length W w' j err' ∧ St uvR L i 0 j err' x) := by
    rintro e' w' ⟨rfl, H⟩
    exact ⟨u, i + n, (e : Int), rfl, hu, fun h => (g1 (by omega)).1, H.out, hS⟩
  by_cases hci : cb = i
  · have h1 := hE.cap
    obtain rfl : cb = L.length := by omega
    subst hci
    have KE := KS (some ⟨bb, ob, none⟩) 0 (fun q => .inl (by simp))
    rw [Nat.sub_self] at KE
    exact (uv_end r bb ob L.length (L.length + n) u n e rfl hn hE.len hjN W hb KE).mono fun _ _ H => fin H
  · exact (uv_mid r bb ob cb L.length i (i + n) u n e rfl hn hi hE.len hE.cap hE.cm hjN hci W hb (KS _ _ fun q => .inr ⟨bb, ob + i, rfl, (byt_drop hcW i).drewN q⟩)).mono fun _ _ H => fin H
set_option maxRecDepth 8000 in
theorem signed_any : RdP 63 uvR (fun u => .int .i64 (zagS (u : Int))) (· < 18446744073709551616) (fun _ => True) := by
  intro w0 W r ab cb L i err hE hb hi hp
  have K := uvarint_any w0 W r ab cb L i err hE hb hi hp
  clear hE hb
  go_enter Try.func63, Try.ntmps63
  go_wp2_with fail
  refine K.mono ?_
  clear K
  rintro e w1 ⟨u, j, err', rfl, hu, _, H⟩
  have K2 := fun W => zag_any (u : Int) (by omega) (by omega) W
  obtain ⟨z, HZ⟩ : ∃ z, Hid (zagS (u : Int) = z) := ⟨_, rfl⟩
  rw [HZ.out] at K2
  go_wp2_with fail
  refine (K2 _).mono ?_
  clear K2
  rintro e w2 ⟨rfl, rfl⟩
  go_wp2
  go_ret
  exact ⟨u, j, err', ret_int HZ.out.symm, hu, fun _ => trivial, H.out⟩
/-- A byte that must be 0 or 1. -/
def boR : Rdr Nat := byR.bind fun x => if 1 < x then .no 3 else .ret x
theorem st_bind {α β : Type} {f : Rdr α} {g : α → Rdr β} {L : List Nat} {i j k : Nat} {err e1 e2 : Int} {x : α} {y : β} (h : St f L i err j e1 x) (h2 : St (g x) L j e1 k e2 y) : St (f.bind g) L i err k e2 y := by
  rcases h with ⟨a, b, c⟩ | ⟨a, ⟨b, c, d⟩ | ⟨e, b, c, d⟩⟩
  · subst b c
    rcases h2 with ⟨_, b2, c2⟩ | ⟨a2, _⟩
    · exact .inl ⟨a, b2, c2⟩
    · exact absurd a2 a
  · subst c
    rcases h2 with ⟨a2, _⟩ | ⟨_, ⟨b2, c2, d2⟩ | ⟨e, b2, c2, d2⟩⟩
    · exact absurd rfl a2
    · exact .inr ⟨a, .inl ⟨by rw [bind_ok b]; exact b2, c2, by omega⟩⟩
    · exact .inr ⟨a, .inr ⟨e, by rw [bind_ok b]; exact b2, c2, d2⟩⟩
  · subst c
    rcases h2 with ⟨_, b2, c2⟩ | ⟨a2, _⟩
    · exact .inr ⟨a, .inr ⟨e, bind_no b, c2, d⟩⟩
    · exfalso; omega
theorem st_ret {α : Type} (x : α) (L : List Nat) (i : Nat) (err : Int) : St (Rdr.ret x) L i err i err x := by
  by_cases h : err = 0
  · exact .inr ⟨h, .inl ⟨rfl, h, Nat.le_refl _⟩⟩
  · exact .inl ⟨h, rfl, rfl⟩
theorem st_no {α : Type} (e : Nat) (he : e ≠ 0) (x : α) (L : List Nat) (i : Nat) (err : Int) : St (Rdr.no e) L i err i (if err ≠ 0 then err else (e : Int)) x := by
  by_cases h : err = 0
  · exact .inr ⟨h, .inr ⟨e, rfl, by rw [if_neg (by simpa using h)], he⟩⟩
  · exact .inl ⟨h, rfl, by rw [if_pos h]⟩
set_option maxRecDepth 8000 in
theorem truth_any : RdC 62 boR (fun x => .int .i64 (x : Int)) (· < 256) (fun _ => True) := by
  intro w0 W r ab cb L i err hE hb hi
  have K := next_any w0 W r ab cb L i err hE hb hi
  clear hE hb
  go_enter Try.func62, Try.ntmps62
  go_wp2_with fail
  refine K.mono ?_
  clear K
  rintro e w1 ⟨x, j, err', rfl, hx, _, H⟩
  by_cases h1 : 1 < x
  · have K2 := fail_any r ab cb L.length j H.out.1.le err' 3 w1 H.out.1.blk
    obtain ⟨E, HEE⟩ : ∃ E, Hid ((if err' ≠ 0 then err' else 3) = E) := ⟨_, rfl⟩
    rw [HEE.out] at K2
    have hgt : decide ((1 : Int) < (x : Int)) = true := by simp; omega
    have HS : Hid (St boR L i err j E x) := by
      refine st_bind H.out.2 ?_
      rw [if_pos h1, ← HEE.out]
      exact st_no 3 (by decide) x L j err'
    go_wp2_with fail
    refine K2.mono ?_
    clear K2
    rintro e w2 ⟨rfl, H2⟩
    have HR : Hid (Ro r ab cb L.length W w2 j E) := H.out.1.trans H2.out
    clear H H2
    go_wp2
    go_ret
    exact ⟨x, j, E, rfl, hx, fun _ => trivial, HR.out, HS.out⟩
  · have hgt : decide ((1 : Int) < (x : Int)) = false := by simp; omega
    have HS : Hid (St boR L i err j err' x) := by
      refine st_bind H.out.2 ?_
      rw [if_neg h1]
      exact st_ret x L j err'
    go_wp2
    go_ret
    exact ⟨x, j, err', rfl, hx, fun _ => trivial, H.out.1, HS.out⟩
set_option maxRecDepth 8000 in
theorem length_any : RdP 75 lenR (fun x => .int .i64 (x : Int)) (· ≤ 65536) (· = 0) := by
  intro w0 W r ab cb L i err hE hb hi hp
  have K := uvarint_any w0 W r ab cb L i err hE hb hi hp
  clear hE hb
  go_enter Try.func75, Try.ntmps75
  go_wp2_with fail
  refine K.mono ?_
  clear K
  rintro e w1 ⟨x, j, err', rfl, hx, hx0, H⟩
  have HX0 : Hid (err' ≠ 0 → x = 0) := hx0
  clear hx0
  by_cases h1 : 65536 < x
  · have K2 := fail_any r ab cb L.length j H.out.1.le err' 3 w1 H.out.1.blk
    obtain ⟨E, HEE⟩ : ∃ E, Hid ((if err' ≠ 0 then err' else 3) = E) := ⟨_, rfl⟩
    rw [HEE.out] at K2
    have hgt : decide ((65536 : Int) < (x : Int)) = true := by simp; omega
    have HS : Hid (St lenR L i err j E 0) := by
      refine st_bind H.out.2 ?_
      rw [if_pos h1, ← HEE.out]
      exact st_no 3 (by decide) 0 L j err'
    go_wp2_with fail
    refine K2.mono ?_
    clear K2
    rintro e w2 ⟨rfl, H2⟩
    have HR : Hid (Ro r ab cb L.length W w2 j E) := H.out.1.trans H2.out
    clear H H2
    go_wp2
    go_ret
    exact ⟨0, j, E, rfl, by decide, fun _ => rfl, HR.out, HS.out⟩
  · have hgt : decide ((65536 : Int) < (x : Int)) = false := by simp; omega
    have HS : Hid (St lenR L i err j err' x) := by
      refine st_bind H.out.2 ?_
      rw [if_neg h1]
      exact st_ret x L j err'
    have hx2 : x ≤ 65536 := by omega
    go_wp2
    go_ret
    exact ⟨x, j, err', rfl, hx2, HX0.out, H.out.1, HS.out⟩
end Go.Proofs.Ytimddoaejldgaaa
