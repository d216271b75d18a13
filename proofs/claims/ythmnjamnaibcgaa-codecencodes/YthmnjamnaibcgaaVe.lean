/-
  The document's own Encode.
-/
import Derived.Test.YthmnjamnaibcgaaVc
import Derived.Test.YthmnjamnaibcgaaVp
import Derived.Test.YthmnjamnaibcgaaWh
import Derived.Test.YthmnjamnaibcgaaRck
namespace Go.Proofs.Ythmnjamnaibcgaa
open Go.RowKit Math
set_option linter.unusedVariables false
theorem only_t {h : Hd} {kl : Nat} {F : Int} (e : only h kl F = true) (hF : F ≠ 4) : h.t.size = 0 := by
  simp only [only, Bool.and_eq_true, Bool.or_eq_true, decide_eq_true_eq] at e
  rcases e.1.1.2 with h3 | h3
  · exact absurd h3 hF
  · rw [em_of h3]; rfl
theorem formed_t {h : Hd} {kl : Nat} (e : formed h kl = true) : h.k = 6 ∨ h.k = 7 ∨ h.t.size = 0 := by
  unfold formed at e
  split at e
  · exact .inr (.inr (only_t e (by decide)))
  split at e
  · rw [Bool.and_eq_true] at e; exact .inr (.inr (only_t e.1 (by decide)))
  split at e
  · exact .inr (.inr (only_t e (by decide)))
  split at e
  · simp only [Bool.and_eq_true] at e; exact .inr (.inr (only_t e.1.1.1 (by decide)))
  split at e
  · simp only [Bool.and_eq_true] at e; exact .inr (.inr (only_t e.1.1 (by decide)))
  split at e
  · next h6 => exact .inl h6
  split at e
  · next h7 => exact .inr (.inl h7)
  split at e
  · exact .inr (.inr (only_t e (by decide)))
  split at e
  · exact .inr (.inr (only_t e (by decide)))
  · cases e
theorem head_low {h : Hd} {kl : Nat} (ho : own h kl = 0) : ptH h ≤ (headB h kl).length := by
  have hf := (own_fine ho).1
  unfold ptH headB
  rw [List.length_cons]
  rcases formed_t hf with h6 | h7 | h0
  · have : bodyB h kl = txB h.t := by unfold bodyB; simp [h6]
    rw [this, txB, List.length_append, bts_len]; omega
  · have : bodyB h kl = txB h.t := by unfold bodyB; simp [h7]
    rw [this, txB, List.length_append, bts_len]; omega
  · omega
theorem low_enc : ∀ (f : Fo) (b : Bool) (ns : List ByteArray), chk0 f = 0 → f.pt ≤ (enc f b ns).length
  | .nil, _, _, _ => by simp [enc, Fo.pt]
  | .cons h k r, b, ns, hc => by
    have c1 := chk0_mem (p := (h, k)) hc (by simp [Fo.list])
    have c2 : chk0 r = 0 := by
      have e : chk0 (.cons h k r) = if chk0V (h, k) ≠ 0 then chk0V (h, k) else chk0 r := rfl
      rw [e, if_neg (by simpa using c1)] at hc
      exact hc
    obtain ⟨a, b'⟩ := own_of0 c1
    have B1 : ptH h ≤ (headB h k.list.length).length := head_low a
    have B2 := low_enc k (decide (h.k = 9)) h.ns b'
    have B3 := low_enc r b ns.tail c2
    have e : enc (.cons h k r) b ns = ((if b then txB (ns.headD ⟨#[]⟩) else []) ++ (headB h k.list.length ++ enc k (decide (h.k = 9)) h.ns)) ++ enc r b ns.tail := rfl
    rw [e, List.length_append, List.length_append, List.length_append]
    simp only [Fo.pt]
    omega
theorem low_V (p : Vt) (hc : chk0V p = 0) : pt p ≤ (encV p).length := by
  have h := low_enc (.cons p.1 p.2 .nil) false [] (by rw [chk0_cons, if_neg (by simpa using hc)]; rfl)
  rw [enc_cons] at h
  simp only [Bool.false_eq_true, if_false, List.nil_append, enc, List.append_nil, Fo.pt] at h
  exact h
set_option maxRecDepth 8000 in
set_option maxHeartbeats 1000000 in
theorem rencode_any (p : Vt) (hw : WfV p) (hws : ws p ≤ 100000) (na : Option Addr) (nc : Nat) (ka : Option Addr) (kc : Nat) (W : World) (hv : Vl W p na nc ka kc) :
    Calls Try.prog 7 #[.agg #[.int .i64 p.1.k, .int .i64 p.1.n, .int .i64 p.1.s, .string p.1.t, .slice na p.1.ns.length nc, .slice ka p.2.list.length kc]] W fun e w' => ∃ v', e = .returned (.tuple #[v', .int .i64 (encE p)]) ∧ Hid (Own w' W.heap.size v' (encB p) ∧ Below W.heap.size W w') := by
  obtain ⟨W1, HW1⟩ : ∃ W1, Hid (W.alloc (.cells #[.int .i64 p.1.k, .int .i64 p.1.n, .int .i64 p.1.s, .string p.1.t, .slice na p.1.ns.length nc, .slice ka p.2.list.length kc] 25) = W1) := ⟨_, rfl⟩
  have HX : Hid (Blk W1 W.heap.size 25 (six p.1 na nc ka p.2.list.length kc)) := by rw [← HW1.out]; exact blk_new W 25 (six p.1 na nc ka p.2.list.length kc)
  have HB1 : Hid (Below W.heap.size W W1) := by rw [← HW1.out]; exact (Below.refl _ _).alloc (Nat.le_refl _) _
  have hz1 : W1.heap.size = W.heap.size + 1 := by have := HW1.out; subst this; simp
  have HV : Hid (Vl W p na nc ka kc) := hv
  have KC := rCheck_any p hw na nc ka kc W1 (hv.below HB1.out)
  have KA : Hid (chkV p 1 = 0 → RbC p ∧ (encV p).length ≤ 12000000 ∧ pt p ≤ (encV p).length) := fun h => ⟨rb_any _ p (Nat.le_refl _) hw (chk1 h), (by have := bound_V p hw (chk1 h); omega), low_V p (chk1 h)⟩
  have HN : Hid (chkV p 1 ≠ 0 → encE p = chkV p 1 ∧ encB p = []) := encE_no
  have HL : Hid (chkV p 1 = 0 → 65536 < (encV p).length → encE p = 5 ∧ encB p = []) := encE_long
  have HY : Hid (chkV p 1 = 0 → ¬ 65536 < (encV p).length → encE p = 0 ∧ encB p = encV p) := encE_yes
  have HWf : Hid (WfV p) := hw
  generalize encE p = EE at *
  generalize encB p = BB at *
  generalize chkV p 1 = E at *
  clear hv hw
  go_enter Try.func7, Try.ntmps7
  go_wp2_with fail
  generalize hWW : World.alloc W _ = W9
  obtain rfl : W1 = W9 := by rw [← hWW, ← HW1.out]
  clear hWW HW1
  refine KC.mono ?_
  clear KC
  rintro e w1 ⟨rfl, b1⟩
  have HB2 : Hid (Below W.heap.size W w1) := HB1.out.trans (b1.mono HB1.out.size)
  have HX2 : Hid (Blk w1 W.heap.size 25 (six p.1 na nc ka p.2.list.length kc)) := HX.out.below b1 HX.out.lt
  have hs1 := b1.size
  clear b1 HB1 HX
  by_cases hE : E = 0
  case neg =>
    obtain ⟨e1, e2⟩ := HN.out hE
    subst e1 e2
    have hEb : (EE != 0) = true := by simpa using hE
    go_wp2
    go_ret2
    exact ⟨_, rfl, World.ownsRow_nil _ _ _ _, HB2.out⟩
  subst hE
  obtain ⟨ka1, kl1, kp1⟩ := KA.out rfl
  clear KA HN
  obtain ⟨w3, HW3⟩ : ∃ w3, Hid (w1.alloc (.cells #[.int .i64 0] 3) = w3) := ⟨_, rfl⟩
  have hgW : W.heap.size < w1.heap.size := HX2.out.lt
  have HG3 : Hid (Blk w3 w1.heap.size 3 [.int .i64 ((0 : Nat) : Int)]) := by rw [← HW3.out]; exact blk_new w1 3 [.int .i64 0]
  have HX4 : Hid (Blk w3 W.heap.size 25 (six p.1 na nc ka p.2.list.length kc)) := by rw [← HW3.out]; exact HX2.out.alloc _
  have HB4 : Hid (Below W.heap.size W w3) := by rw [← HW3.out]; exact HB2.out.alloc HB2.out.size _
  have c0 : w1.cell? ⟨W.heap.size, 0, none⟩ = some (.int .i64 p.1.k) := HX2.out.cell 0
  have c1 : w1.cell? ⟨W.heap.size, 1, none⟩ = some (.int .i64 p.1.n) := HX2.out.cell 1
  have c2 : w1.cell? ⟨W.heap.size, 2, none⟩ = some (.int .i64 p.1.s) := HX2.out.cell 2
  have c3 : w1.cell? ⟨W.heap.size, 3, none⟩ = some (.string p.1.t) := HX2.out.cell 3
  have c4 : w1.cell? ⟨W.heap.size, 4, none⟩ = some (.slice na p.1.ns.length nc) := HX2.out.cell 4
  have c5 : w1.cell? ⟨W.heap.size, 5, none⟩ = some (.slice ka p.2.list.length kc) := HX2.out.cell 5
  have KP := parts_any _ p (Nat.le_refl _) HWf.out na nc ka kc w1.heap.size 0 W w3 HV.out HB4.out (by omega) HG3.out (by omega)
  clear HB2 HX2
  go_wp2_with fail
  generalize hWW : World.alloc w1 _ = W9
  obtain rfl : w3 = W9 := by rw [← hWW, ← HW3.out]
  clear hWW HW3
  refine KP.mono ?_
  clear KP c0 c1 c2 c3 c4 c5
  rintro e w4 ⟨m, rfl, H4⟩
  have HX5 : Hid (Blk w4 W.heap.size 25 (six p.1 na nc ka p.2.list.length kc)) := HX4.out.kept H4.out.gr (fun e => by injection e with e; omega)
  have HB5 : Hid (Below W.heap.size W w4) := HB4.out.grown H4.out.gr HB4.out.size (fun k e => by injection e with e; omega)
  have hm : m ≤ pt p := by have := H4.out.ge; omega
  clear H4 HX4 HB4 HG3
  by_cases hbig : 65536 < m
  · have hl2 : 65536 < (encV p).length := by omega
    obtain ⟨e1, e2⟩ := HL.out (by trivial) hl2
    subst e1 e2
    have hd : decide (65536 < m) = true := by simpa using hbig
    rw [hd]
    clear hl2 hm
    go_wp2
    go_ret2
    exact ⟨_, rfl, World.ownsRow_nil _ _ _ _, HB5.out⟩
  have hd : decide (65536 < m) = false := by simpa using hbig
  rw [hd]
  have c0 : w4.cell? ⟨W.heap.size, 0, none⟩ = some (.int .i64 p.1.k) := HX5.out.cell 0
  have c1 : w4.cell? ⟨W.heap.size, 1, none⟩ = some (.int .i64 p.1.n) := HX5.out.cell 1
  have c2 : w4.cell? ⟨W.heap.size, 2, none⟩ = some (.int .i64 p.1.s) := HX5.out.cell 2
  have c3 : w4.cell? ⟨W.heap.size, 3, none⟩ = some (.string p.1.t) := HX5.out.cell 3
  have c4 : w4.cell? ⟨W.heap.size, 4, none⟩ = some (.slice na p.1.ns.length nc) := HX5.out.cell 4
  have c5 : w4.cell? ⟨W.heap.size, 5, none⟩ = some (.slice ka p.2.list.length kc) := HX5.out.cell 5
  have KV := ka1 na nc ka kc (.slice none 0 0) [] W.heap.size W w4 HV.out HB5.out (Nat.le_refl _) HB5.out.size (World.ownsRow_nil _ _ _ _) (by simp only [List.length_nil]; omega)
  clear ka1 hm kp1
  go_wp2_with fail
  refine KV.mono ?_
  clear KV c0 c1 c2 c3 c4 c5
  rintro e w5 ⟨v2, l2, rfl, H2⟩
  have HB6 : Hid (Below W.heap.size W w5) := H2.out.1.below (show Own w4 W.heap.size (.slice none 0 0) [] from World.ownsRow_nil _ _ _ _) HB5.out HB5.out.size (Nat.le_refl _)
  have HO2 : Hid (Own w5 W.heap.size v2 l2) := H2.out.1.own
  have HW2 : Hid (Wr [] (encV p) l2) := H2.out.2
  obtain ⟨ax, c, rfl, _, _, hlc, hcm⟩ := HO2.out.byt
  clear H2 HX5 HB5
  have hup : l2.length ≤ 12000000 := by have := HW2.out.up; simp only [List.length_nil] at this; omega
  by_cases hl : 65536 < l2.length
  · have hl2 : 65536 < (encV p).length := by have := HW2.out.up; simp only [List.length_nil] at this; omega
    obtain ⟨e1, e2⟩ := HL.out (by trivial) hl2
    subst e1 e2
    have hlb : decide ((65536 : Int) < (l2.length : Int)) = true := by simp; omega
    clear hl2
    go_wp2
    go_ret2
    exact ⟨_, rfl, World.ownsRow_nil _ _ _ _, HB6.out⟩
  · have e : l2 = encV p := by
      rcases HW2.out.out with h | h
      · simpa using h
      · exact absurd h hl
    obtain ⟨e1, e2⟩ := HY.out (by trivial) (by rw [← e]; exact hl)
    subst e1
    have HO3 : Hid (Own w5 W.heap.size (.slice ax l2.length c) BB) := by rw [e2, ← e]; exact HO2.out
    have hlb : decide ((65536 : Int) < (l2.length : Int)) = false := by simp; omega
    clear e e2 HL HY
    go_wp2
    go_ret2
    exact ⟨_, rfl, HO3.out, HB6.out⟩
end Go.Proofs.Ythmnjamnaibcgaa
