/-
  codec's reader: what uvarint, signed, truth, length read. · codec's reader: text. · What codec's reader reads as a value: what is answered.
-/
import Derived.Test.YtmbglggodifboaaGreatDoorSG24x
import Derived.Laws.BytesArg
namespace Go.Proofs.YtmbglggodifboaaGreatDoor
open Go.RowKit Math
set_option linter.unusedVariables false
def RdP {α : Type} (F : Nat) (f : Rdr α) (val : α → Value) (P Z : α → Prop) : Prop := ∀ (w0 W : World) (r : Nat) (ab : Option Addr) (cb : Nat) (L : List Nat) (i : Nat) (err : Int), En w0 W r ab cb L → Blk W r 170 [.slice ab L.length cb, .int .i64 (i : Int), .int .i64 err] → i ≤ L.length → (err = 0 → 0 < L.length) →
  Calls Tryz.prog F #[.pointer (some ⟨r, 0, none⟩)] W fun e w' => ∃ x j err', e = .returned (val x) ∧ P x ∧ (err' ≠ 0 → Z x) ∧ Hid (Ro r ab cb L.length W w' j err' ∧ St f L i err j err' x)
theorem byt_drop {w : World} {bb ob : Nat} {L : List Nat} (h : Cells w bb ob L) (i : Nat) : Cells w bb (ob + i) (L.drop i) := fun k hk => by
  rw [List.length_drop] at hk
  have := h (i + k) (by omega)
  rw [Nat.add_assoc, this]
  simp [List.getD_eq_getElem?_getD, List.getElem?_drop]
theorem Cells.drewN {w : World} {bb ob : Nat} {L : List Nat} (h : Cells w bb ob L) (q : Nat) : Cells (w.drewN q) bb ob L := fun k hk => h k hk
theorem uvarint_any : RdP 132 uvR (fun u => .int .u64 (u : Int)) (· < 18446744073709551616) (· = 0) := by
  intro w0 W r ab cb L i err hE hb hi hp
  by_cases he : err = 0
  case neg =>
    refine (uv_err r ab cb L.length i err he W hb).mono ?_
    rintro e w' ⟨rfl, rfl⟩
    exact ⟨0, i, err, rfl, by decide, fun _ => rfl, ⟨hb, hi, World.grownBy.refl _ _⟩, .inl ⟨he, rfl, rfl⟩⟩
  subst he
  obtain ⟨bb, ob, rfl, hc⟩ := hE.ptr (hp rfl)
  have hoct : Oct (L.drop i) := fun x hx => hE.oct x (List.mem_of_mem_drop hx)
  have hcW : Cells W bb ob L := hc.below hE.bl
  obtain ⟨u, n, e, ht⟩ : ∃ u n e, ruv (L.drop i) 0 0 = (u, n, e) := ⟨_, _, _, rfl⟩
  have g1 : e ≠ 0 → u = 0 ∧ n = 0 := fun h => by
    have := ruv_bad (L.drop i) 0 0 (by rw [ht]; exact h)
    rw [ht] at this
    exact this
  have g2 : e = 0 → u < 18446744073709551616 ∧ n ≤ (L.drop i).length ∧ n ≤ 10 ∧ 0 < n := fun h => by
    have := ruv_good hoct (by rw [ht]; exact h)
    rw [ht] at this
    exact this
  have hu : u < 18446744073709551616 := by
    by_cases h : e = 0
    · exact (g2 h).1
    · rw [(g1 h).1]; decide
  have hn : n ≤ 10 := by
    by_cases h : e = 0
    · exact (g2 h).2.2.1
    · rw [(g1 h).2]; decide
  have hjN : i + n ≤ L.length := by
    by_cases h : e = 0
    · have := (g2 h).2.1
      rw [List.length_drop] at this
      omega
    · rw [(g1 h).2]; omega
  have hS : St uvR L i 0 (i + n) (e : Int) u := by
    right
    refine ⟨rfl, ?_⟩
    by_cases h : e = 0
    · left
      refine ⟨?_, by rw [h]; rfl, by omega⟩
      unfold uvR
      rw [ht]
      simp only [h, if_true]
      rw [List.drop_drop]
    · right
      refine ⟨e, ?_, rfl, h⟩
      unfold uvR
      rw [ht]
      simp only [h, if_false]
  have hlen := hE.len
  have KS : ∀ (A : Option Addr) (c : Nat), (∀ q, Byt (W.drewN q) A (L.drop i)) → ∀ q, Calls Tryz.prog 112 #[.slice A (L.length - i) c] (W.drewN q) fun e' w' => e' = .returned (.tuple #[.int .u64 (u : Int), .int .i64 (n : Int), .int .i64 (e : Int)]) ∧ w' = W.drewN q := fun A c hA q => by
    have := ruv_any A c (L.drop i) (by rw [List.length_drop]; omega) (W.drewN q) (hA q) hoct
    rw [List.length_drop, ht] at this
    exact this
  have fin : ∀ {e' : Ending} {w' : World}, (e' = .returned (.int .u64 (u : Int)) ∧ Hid (Ro r (some ⟨bb, ob, none⟩) cb L.length W w' (i + n) (e : Int))) → ∃ (x : Nat) (j : Nat) (err' : Int), e' = .returned (.int .u64 (x : Int)) ∧ x < 18446744073709551616 ∧ (err' ≠ 0 → x = 0) ∧ Hid (Ro r (some ⟨bb, ob, none⟩) cb L.length W w' j err' ∧ St uvR L i 0 j err' x) := by
    rintro e' w' ⟨rfl, H⟩
    exact ⟨u, i + n, (e : Int), rfl, hu, fun h => (g1 (by omega)).1, H.out, hS⟩
  by_cases hci : cb = i
  · have h1 := hE.cap
    obtain rfl : cb = L.length := by omega
    subst hci
    have KE := KS (some ⟨bb, ob, none⟩) 0 (fun q => .inl (by simp))
    rw [Nat.sub_self] at KE
    exact (uv_end r bb ob L.length (L.length + n) u n e rfl hn hE.len hjN W hb KE).mono fun _ _ H => fin H
  · exact (uv_mid r bb ob cb L.length i (i + n) u n e rfl hn hi hE.len hE.cap hE.cm hjN hci W hb (KS _ _ fun q => .inr ⟨bb, ob + i, rfl, (byt_drop hcW i).drewN q⟩)).mono fun _ _ H => fin H
set_option maxRecDepth 8000 in
theorem signed_any : RdP 131 uvR (fun u => .int .i64 (zagS (u : Int))) (· < 18446744073709551616) (fun _ => True) := by
  intro w0 W r ab cb L i err hE hb hi hp
  have K := uvarint_any w0 W r ab cb L i err hE hb hi hp
  clear hE hb
  go_enter Tryz.func131, Tryz.ntmps131
  go_wp2_with fail
  refine K.mono ?_
  clear K
  rintro e w1 ⟨u, j, err', rfl, hu, _, H⟩
  have K2 := fun W => zag_any (u : Int) (by omega) (by omega) W
  obtain ⟨z, HZ⟩ : ∃ z, Hid (zagS (u : Int) = z) := ⟨_, rfl⟩
  rw [HZ.out] at K2
  go_wp2_with fail
  refine (K2 _).mono ?_
  clear K2
  rintro e w2 ⟨rfl, rfl⟩
  go_wp2
  go_ret
  exact ⟨u, j, err', ret_int HZ.out.symm, hu, fun _ => trivial, H.out⟩
/-- A byte that must be 0 or 1. -/
def boR : Rdr Nat := byR.bind fun x => if 1 < x then .no 3 else .ret x
theorem st_bind {α β : Type} {f : Rdr α} {g : α → Rdr β} {L : List Nat} {i j k : Nat} {err e1 e2 : Int} {x : α} {y : β} (h : St f L i err j e1 x) (h2 : St (g x) L j e1 k e2 y) : St (f.bind g) L i err k e2 y := by
  rcases h with ⟨a, b, c⟩ | ⟨a, ⟨b, c, d⟩ | ⟨e, b, c, d⟩⟩
  · subst b c
    rcases h2 with ⟨_, b2, c2⟩ | ⟨a2, _⟩
    · exact .inl ⟨a, b2, c2⟩
    · exact absurd a2 a
  · subst c
    rcases h2 with ⟨a2, _⟩ | ⟨_, ⟨b2, c2, d2⟩ | ⟨e, b2, c2, d2⟩⟩
    · exact absurd rfl a2
    · exact .inr ⟨a, .inl ⟨by rw [bind_ok b]; exact b2, c2, by omega⟩⟩
    · exact .inr ⟨a, .inr ⟨e, by rw [bind_ok b]; exact b2, c2, d2⟩⟩
  · subst c
    rcases h2 with ⟨_, b2, c2⟩ | ⟨a2, _⟩
    · exact .inr ⟨a, .inr ⟨e, bind_no b, c2, d⟩⟩
    · exfalso; omega
theorem st_ret {α : Type} (x : α) (L : List Nat) (i : Nat) (err : Int) : St (Rdr.ret x) L i err i err x := by
  by_cases h : err = 0
  · exact .inr ⟨h, .inl ⟨rfl, h, Nat.le_refl _⟩⟩
  · exact .inl ⟨h, rfl, rfl⟩
theorem st_no {α : Type} (e : Nat) (he : e ≠ 0) (x : α) (L : List Nat) (i : Nat) (err : Int) : St (Rdr.no e) L i err i (if err ≠ 0 then err else (e : Int)) x := by
  by_cases h : err = 0
  · exact .inr ⟨h, .inr ⟨e, rfl, by rw [if_neg (by simpa using h)], he⟩⟩
  · exact .inl ⟨h, rfl, by rw [if_pos h]⟩
set_option maxRecDepth 8000 in
theorem truth_any : RdC 130 boR (fun x => .int .i64 (x : Int)) (· < 256) (fun _ => True) := by
  intro w0 W r ab cb L i err hE hb hi
  have K := next_any w0 W r ab cb L i err hE hb hi
  clear hE hb
  go_enter Tryz.func130, Tryz.ntmps130
  go_wp2_with fail
  refine K.mono ?_
  clear K
  rintro e w1 ⟨x, j, err', rfl, hx, _, H⟩
  by_cases h1 : 1 < x
  · have K2 := fail_any r ab cb L.length j H.out.1.le err' 3 w1 H.out.1.blk
    obtain ⟨E, HEE⟩ : ∃ E, Hid ((if err' ≠ 0 then err' else 3) = E) := ⟨_, rfl⟩
    rw [HEE.out] at K2
    have hgt : decide ((1 : Int) < (x : Int)) = true := by simp; omega
    have HS : Hid (St boR L i err j E x) := by
      refine st_bind H.out.2 ?_
      rw [if_pos h1, ← HEE.out]
      exact st_no 3 (by decide) x L j err'
    go_wp2_with fail
    refine K2.mono ?_
    clear K2
    rintro e w2 ⟨rfl, H2⟩
    have HR : Hid (Ro r ab cb L.length W w2 j E) := H.out.1.trans H2.out
    clear H H2
    go_wp2
    go_ret
    exact ⟨x, j, E, rfl, hx, fun _ => trivial, HR.out, HS.out⟩
  · have hgt : decide ((1 : Int) < (x : Int)) = false := by simp; omega
    have HS : Hid (St boR L i err j err' x) := by
      refine st_bind H.out.2 ?_
      rw [if_neg h1]
      exact st_ret x L j err'
    go_wp2
    go_ret
    exact ⟨x, j, err', rfl, hx, fun _ => trivial, H.out.1, HS.out⟩
set_option maxRecDepth 8000 in
theorem length_any : RdP 137 lenR (fun x => .int .i64 (x : Int)) (· ≤ 65536) (· = 0) := by
  intro w0 W r ab cb L i err hE hb hi hp
  have K := uvarint_any w0 W r ab cb L i err hE hb hi hp
  clear hE hb
  go_enter Tryz.func137, Tryz.ntmps137
  go_wp2_with fail
  refine K.mono ?_
  clear K
  rintro e w1 ⟨x, j, err', rfl, hx, hx0, H⟩
  have HX0 : Hid (err' ≠ 0 → x = 0) := hx0
  clear hx0
  by_cases h1 : 65536 < x
  · have K2 := fail_any r ab cb L.length j H.out.1.le err' 3 w1 H.out.1.blk
    obtain ⟨E, HEE⟩ : ∃ E, Hid ((if err' ≠ 0 then err' else 3) = E) := ⟨_, rfl⟩
    rw [HEE.out] at K2
    have hgt : decide ((65536 : Int) < (x : Int)) = true := by simp; omega
    have HS : Hid (St lenR L i err j E 0) := by
      refine st_bind H.out.2 ?_
      rw [if_pos h1, ← HEE.out]
      exact st_no 3 (by decide) 0 L j err'
    go_wp2_with fail
    refine K2.mono ?_
    clear K2
    rintro e w2 ⟨rfl, H2⟩
    have HR : Hid (Ro r ab cb L.length W w2 j E) := H.out.1.trans H2.out
    clear H H2
    go_wp2
    go_ret
    exact ⟨0, j, E, rfl, by decide, fun _ => rfl, HR.out, HS.out⟩
  · have hgt : decide ((65536 : Int) < (x : Int)) = false := by simp; omega
    have HS : Hid (St lenR L i err j err' x) := by
      refine st_bind H.out.2 ?_
      rw [if_neg h1]
      exact st_ret x L j err'
    have hx2 : x ≤ 65536 := by omega
    go_wp2
    go_ret
    exact ⟨x, j, err', rfl, hx2, HX0.out, H.out.1, HS.out⟩
end Go.Proofs.YtmbglggodifboaaGreatDoor
namespace Go.Proofs.YtmbglggodifboaaGreatDoor
open Go.RowKit Math
set_option linter.unusedVariables false
theorem strOf (l : List Nat) (h : Oct l) : strOfNums (l.map fun n : Nat => (n : Int)) = ofB l := by
  unfold strOfNums ofB
  congr 2
  rw [List.map_map]
  apply List.map_congr_left
  intro x hx
  have := h x hx
  simp
set_option maxRecDepth 8000 in
theorem text_any : RdP 133 txR (fun s => .string s) (fun s => s.size ≤ 65536) (fun _ => True) := by
  intro w0 W r ab cb L i err hE hb hi hp
  have K := length_any w0 W r ab cb L i err hE hb hi hp
  have HE : Hid (En w0 W r ab cb L) := hE
  have hlen := hE.len
  clear hE hb
  go_enter Tryz.func133, Tryz.ntmps133
  go_wp2_with fail
  refine K.mono ?_
  clear K
  rintro e w1 ⟨n, j, e1, rfl, hn, _, H⟩
  have hjl := H.out.1.le
  by_cases hno : e1 ≠ 0 ∨ L.length < j + n
  · have K2 := take_no r ab cb L.length j n H.out.1.le hlen e1 hno w1 H.out.1.blk
    obtain ⟨E, HEE⟩ : ∃ E, Hid ((if e1 ≠ 0 then e1 else 2) = E) := ⟨_, rfl⟩
    rw [HEE.out] at K2
    have HS : Hid (St txR L i err j E em) := by
      refine st_bind H.out.2 ?_
      by_cases he : e1 = 0
      · right
        refine ⟨he, .inr ⟨2, ?_, ?_, by decide⟩⟩
        · have : takeR n (L.drop j) = .error 2 := by
            unfold takeR
            rw [if_pos (by rw [List.length_drop]; omega)]
          exact bind_no this
        · rw [← HEE.out, if_neg (by simpa using he)]; rfl
      · left
        exact ⟨he, rfl, by rw [← HEE.out, if_pos he]⟩
    have hcv : ∀ W, (convert 70 9 (.slice none 0 0)).run Tryz.prog W = .ok (.string ⟨#[]⟩) W := fun W => run_convert_bytes_nil W 70 5 Tryz.underlying70 Tryz.underlying5 0 0 9 Tryz.underlying9
    go_wp2_with fail
    refine K2.mono ?_
    clear K2
    rintro e w2 ⟨rfl, H2⟩
    have HR : Hid (Ro r ab cb L.length W w2 j E) := H.out.1.trans H2.out
    clear H H2 HE
    go_wp2
    go_ret
    exact ⟨em, j, E, rfl, by decide, fun _ => trivial, HR.out, HS.out⟩
  have he1 : e1 = 0 := by omega
  subst he1
  have hjn : j + n ≤ L.length := by omega
  by_cases hL0 : L.length = 0
  · exfalso
    have : err = 0 := by
      rcases H.out.2 with ⟨a, _, c⟩ | ⟨a, _⟩
      · exact absurd c.symm a
      · exact a
    have := hp this
    omega
  obtain ⟨bb, ob, rfl, hc⟩ := HE.out.ptr (by omega)
  have K2 := take_ok r bb ob cb L.length j n (j + n) rfl hjn hlen HE.out.cap HE.out.cm w1 H.out.1.blk
  have HO : Hid (Oct ((L.drop j).take n)) := fun x hx => HE.out.oct x (List.mem_of_mem_drop (List.mem_of_mem_take hx))
  have hl2 : ((L.drop j).take n).length = n := by rw [List.length_take, List.length_drop]; omega
  have HS : Hid (St txR L i err (j + n) 0 (ofB ((L.drop j).take n))) := by
    refine st_bind H.out.2 (.inr ⟨rfl, .inl ⟨?_, rfl, by omega⟩⟩)
    have : takeR n (L.drop j) = .ok ((L.drop j).take n, (L.drop j).drop n) := by
      unfold takeR
      rw [if_neg (by rw [List.length_drop]; omega)]
    rw [bind_ok this, List.drop_drop]
    rfl
  have hsz : (ofB ((L.drop j).take n)).size ≤ 65536 := by rw [ofB_size, hl2]; exact hn
  clear hc
  go_wp2_with fail
  refine K2.mono ?_
  clear K2
  rintro e w2 ⟨oo, c, rfl, H2⟩
  have HR : Hid (Ro r (some ⟨bb, ob, none⟩) cb L.length W w2 (j + n) 0) := H.out.1.trans H2.out.1
  have hcv : (convert 70 9 (.slice (some ⟨bb, oo, none⟩) n c)).run Tryz.prog w2 = .ok (.string (ofB ((L.drop j).take n))) w2 := by
    rw [← strOf _ HO.out]
    refine run_convert_bytes_arg w2 70 5 Tryz.underlying70 Tryz.underlying5 bb oo n c _ (by rw [List.length_map]; exact hl2) (fun k hk => ?_) 9 Tryz.underlying9
    have ho := H2.out.2 (by omega)
    subst ho
    have := (HE.out.ro HR.out).cell (i := j + k) (by omega)
    rw [Nat.add_assoc, this]
    simp [List.getD_eq_getElem?_getD, List.getElem?_drop, hk]
    cases h : L[j + k]? <;> simp
  generalize ofB ((L.drop j).take n) = s at *
  clear H H2 HE HO
  go_wp2
  go_ret
  exact ⟨s, j + n, 0, rfl, hsz, fun _ => trivial, HR.out, HS.out⟩
end Go.Proofs.YtmbglggodifboaaGreatDoor
namespace Go.Proofs.YtmbglggodifboaaGreatDoor
open Go.RowKit Math
set_option linter.unusedVariables false
theorem Ro.then {r : Nat} {ab : Option Addr} {cb N : Nat} {W w1 w2 : World} {i : Nat} {e : Int} (h : Ro r ab cb N W w1 i e) (k : Below w1.heap.size w1 w2) : Ro r ab cb N W w2 i e :=
  ⟨h.blk.below k h.blk.lt, h.le, ⟨k.os.trans h.gr.os, k.tape.trans h.gr.tape, k.output.trans h.gr.output, Nat.le_trans h.gr.size k.size, fun x hx hne => (k.block x (Nat.lt_of_lt_of_le hx h.gr.size)).trans (h.gr.block x hx hne)⟩⟩
/-- A value that was read, and what is as it was. -/
structure Vo (f : Rdr Vt) (r : Nat) (ab : Option Addr) (cb : Nat) (L : List Nat) (W w' : World) (i : Nat) (err : Int) (p : Vt) (na : Option Addr) (nc : Nat) (ka : Option Addr) (kc j : Nat) (err' rf : Int) : Prop where
  ro : Ro r ab cb L.length W w' j err'
  vl : ∃ Lp, VlL w' p na nc ka kc Lp ∧ ∀ x ∈ Lp, W.heap.size ≤ x ∧ x < w'.heap.size
  wf : WfV p
  st : St f L i err j err' p
  rf : err' = 0 → rf = chk0V p
/-- It is short enough, or it ends early enough. -/
def Sm {α : Type} (f : Rdr α) (L : List Nat) (i : Nat) : Prop := L.length ≤ 65536 ∨ ∃ p rest, f (L.drop i) = .ok (p, rest) ∧ L.length ≤ 65536 + rest.length
def ValC (F : Nat) (f : Rdr Vt) (args : Nat → Array Value) : Prop := ∀ (w0 W : World) (r : Nat) (ab : Option Addr) (cb : Nat) (L : List Nat) (i : Nat) (err : Int), En w0 W r ab cb L → Blk W r 170 [.slice ab L.length cb, .int .i64 (i : Int), .int .i64 err] → i ≤ L.length → (err = 0 → Sm f L i) →
  Calls Tryz.prog F (args r) W fun e w' => ∃ p na nc ka kc j err' rf, e = .returned (.tuple #[.agg #[.int .i64 p.1.k, .int .i64 p.1.n, .int .i64 p.1.s, .string p.1.t, .slice na p.1.ns.length nc, .slice ka p.2.list.length kc], .int .i64 rf]) ∧ Hid (Vo f r ab cb L W w' i err p na nc ka kc j err' rf)
/-- The two variables of a call of value, and the reader. -/
structure Fr (r : Nat) (ab : Option Addr) (cb : Nat) (L : List Nat) (W w : World) (g4 g6 : Nat) (cs : List Value) (j : Nat) (e : Int) : Prop where
  ro : Ro r ab cb L.length W w j e
  b4 : Blk w g4 41 zer
  b6 : Blk w g6 41 cs
  r4 : r < g4
  l46 : g4 < g6
  l4 : W.heap.size ≤ g4
theorem Fr.prim {r : Nat} {ab : Option Addr} {cb : Nat} {L : List Nat} {W w w' : World} {g4 g6 : Nat} {cs : List Value} {j k : Nat} {e e' : Int} (h : Fr r ab cb L W w g4 g6 cs j e) (k' : Ro r ab cb L.length w w' k e') : Fr r ab cb L W w' g4 g6 cs k e' := by
  have := h.r4
  have := h.l46
  exact ⟨h.ro.trans k', h.b4.kept k'.gr (by intro c; injection c with c; omega), h.b6.kept k'.gr (by intro c; injection c with c; omega), h.r4, h.l46, h.l4⟩
theorem Fr.put {r : Nat} {ab : Option Addr} {cb : Nat} {L : List Nat} {W w w' : World} {g4 g6 : Nat} {cs cs' : List Value} {j : Nat} {e : Int} (h : Fr r ab cb L W w g4 g6 cs j e) (hb : Blk w' g6 41 cs') (g : w.grownBy w' (some g6)) : Fr r ab cb L W w' g4 g6 cs' j e := by
  have := h.r4
  have := h.l46
  have h1 := h.l4
  refine ⟨⟨h.ro.blk.kept g (by intro c; injection c with c; omega), h.ro.le, ?_⟩, h.b4.kept g (by intro c; injection c with c; omega), hb, h.r4, h.l46, h.l4⟩
  exact ⟨g.os.trans h.ro.gr.os, g.tape.trans h.ro.gr.tape, g.output.trans h.ro.gr.output, Nat.le_trans h.ro.gr.size g.size, fun x hx hne => (g.block x (Nat.lt_of_lt_of_le hx h.ro.gr.size) (by intro c; injection c with c; omega)).trans (h.ro.gr.block x hx hne)⟩
theorem Fr.below {r : Nat} {ab : Option Addr} {cb : Nat} {L : List Nat} {W w w' : World} {g4 g6 : Nat} {cs : List Value} {j : Nat} {e : Int} (h : Fr r ab cb L W w g4 g6 cs j e) (k : Below w.heap.size w w') : Fr r ab cb L W w' g4 g6 cs j e :=
  ⟨h.ro.then k, h.b4.below k h.b4.lt, h.b6.below k h.b6.lt, h.r4, h.l46, h.l4⟩
theorem Fr.res {r : Nat} {ab : Option Addr} {cb : Nat} {L : List Nat} {W w w' : World} {g4 g6 : Nat} {cs cs' : List Value} {j : Nat} {e : Int} (h : Fr r ab cb L W w g4 g6 cs j e) (hb : Blk w' g4 41 cs') (g : w.grownBy w' (some g4)) : Ro r ab cb L.length W w' j e := by
  have := h.r4
  have h1 := h.l4
  exact ⟨h.ro.blk.kept g (by intro c; injection c with c; omega), h.ro.le, ⟨g.os.trans h.ro.gr.os, g.tape.trans h.ro.gr.tape, g.output.trans h.ro.gr.output, Nat.le_trans h.ro.gr.size g.size, fun x hx hne => (g.block x (Nat.lt_of_lt_of_le hx h.ro.gr.size) (by intro c; injection c with c; omega)).trans (h.ro.gr.block x hx hne)⟩⟩
/-- A value without names and kids lies nowhere else. -/
theorem vl_lf (w : World) (k n s : Int) (t : ByteArray) : VlL w (lf k n s t) none 0 none 0 [] :=
  ⟨[], [], rfl, .inl ⟨rfl, rfl⟩, ⟨Nat.le_refl _, fun _ => rfl, by decide⟩, ⟨Nat.le_refl _, fun _ => rfl, by decide⟩, .inl ⟨rfl, rfl⟩⟩
theorem chk_lf (k n s : Int) (t : ByteArray) : chkV (lf k n s t) 1 = chk0V (lf k n s t) := chkV_flat _ 1 (by simp [dpV, lf, dpF])
theorem st_map {α β : Type} {f : Rdr α} {L : List Nat} {i j : Nat} {err e1 : Int} {x : α} (h : St f L i err j e1 x) (q : α → β) : St (f.bind fun x => .ret (q x)) L i err j e1 (q x) := st_bind h (st_ret (q x) L j e1)
theorem bo_eq (l : List Nat) (q : Nat → Vt) : (byR.bind fun x => if 1 < x then Rdr.no 3 else Rdr.ret (q x)) l = (boR.bind fun x => .ret (q x)) l := by
  unfold boR Rdr.bind
  cases byR l with
  | error e => rfl
  | ok v =>
    obtain ⟨x, m⟩ := v
    simp only
    split <;> rfl
theorem st_eq {α : Type} {f g : Rdr α} (h : ∀ l, f l = g l) {L : List Nat} {i j : Nat} {err e1 : Int} {x : α} (k : St f L i err j e1 x) : St g L i err j e1 x := by
  unfold St at *
  rw [← h]
  exact k
end Go.Proofs.YtmbglggodifboaaGreatDoor
