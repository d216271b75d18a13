/-
   · 
-/
import Derived.Test.YtpfiejmhnkcjbaaGreatDoorHG33x
import Derived.Test.YtpfiejmhnkcjbaaGreatDoorHWz
namespace Go.Proofs.YtpfiejmhnkcjbaaGreatDoor
set_option maxRecDepth 8000
open Go.RowKit Math
set_option linter.unusedVariables false
def encE (p : Vt) : Int := if chkV p 1 ≠ 0 then chkV p 1 else if 65536 < (encV p).length then 5 else 0
def encB (p : Vt) : List Nat := if encE p = 0 then encV p else []
theorem encE_no {p : Vt} (h : chkV p 1 ≠ 0) : encE p = chkV p 1 /\ encB p = [] := by
 have e : encE p = chkV p 1 := by unfold encE; rw [if_pos h]
 exact ⟨e, by unfold encB; rw [e, if_neg h]⟩
theorem encE_long {p : Vt} (h : chkV p 1 = 0) (hl : 65536 < (encV p).length) : encE p = 5 /\ encB p = [] := by
 have e : encE p = 5 := by unfold encE; rw [if_neg (by simpa using h), if_pos hl]
 exact ⟨e, by unfold encB; rw [e]; rfl⟩
theorem encE_yes {p : Vt} (h : chkV p 1 = 0) (hl : ¬ 65536 < (encV p).length) : encE p = 0 /\ encB p = encV p := by
 have e : encE p = 0 := by unfold encE; rw [if_neg (by simpa using h), if_neg hl]
 exact ⟨e, by unfold encB; rw [e]; rfl⟩
theorem chk1 {p : Vt} (h : chkV p 1 = 0) : chk0V p = 0 := by rw [<- chkV_flat p 1 (deepV_of p 1 h)]; exact h
theorem encode_all (p : Vt) (hw : WfV p) (hl : chkV p 1 = 0 -> (encV p).length <= 100000000) (na : Option Addr) (nc : Nat) (ka : Option Addr) (kc : Nat) (W : World) (hv : Vl W p na nc ka kc) :
 Calls Tryz.prog 110 #[.agg #[.int .i64 p.1.k, .int .i64 p.1.n, .int .i64 p.1.s, .string p.1.t, .slice na p.1.ns.length nc, .slice ka p.2.list.length kc]] W fun e w' => ∃ v', e = .returned (.tuple #[v', .int .i64 (encE p)]) /\ Hid (Own w' W.heap.size v' (encB p) /\ Below W.heap.size W w') := by
 obtain ⟨W1, HW1⟩ : ∃ W1, Hid (W.alloc (.cells #[.int .i64 p.1.k, .int .i64 p.1.n, .int .i64 p.1.s, .string p.1.t, .slice na p.1.ns.length nc, .slice ka p.2.list.length kc] 41) = W1) := ⟨_, rfl⟩
 have HX : Hid (Blk W1 W.heap.size 41 (six p.1 na nc ka p.2.list.length kc)) := by rw [<- HW1.out]; exact blk_new W 41 (six p.1 na nc ka p.2.list.length kc)
 have HB1 : Hid (Below W.heap.size W W1) := by rw [<- HW1.out]; exact (Below.refl _ _).alloc (Nat.le_refl _) _
 have hz1 : W1.heap.size = W.heap.size + 1 := by have := HW1.out; subst this; simp
 have HV : Hid (Vl W p na nc ka kc) := hv
 have KC := vCheck_any p hw na nc ka kc W1 (hv.below HB1.out)
 have KA : Hid (chkV p 1 = 0 -> AvC p /\ (encV p).length <= 100000000) := fun h => ⟨av_any _ p (Nat.le_refl _) hw (chk1 h), hl h⟩
 have HN : Hid (chkV p 1 ≠ 0 -> encE p = chkV p 1 /\ encB p = []) := encE_no
 have HL : Hid (chkV p 1 = 0 -> 65536 < (encV p).length -> encE p = 5 /\ encB p = []) := encE_long
 have HY : Hid (chkV p 1 = 0 -> ¬ 65536 < (encV p).length -> encE p = 0 /\ encB p = encV p) := encE_yes
 generalize encE p = EE at *
 generalize encB p = BB at *
 generalize chkV p 1 = E at *
 clear hv
 go_enter Tryz.func110, Tryz.ntmps110
 go_wp2_with fail
 generalize hWW : World.alloc W _ = W9
 obtain rfl : W1 = W9 := by rw [<- hWW, <- HW1.out]
 clear hWW HW1
 refine KC.mono ?_
 clear KC
 rintro e w1 ⟨rfl, b1⟩
 have HB2 : Hid (Below W.heap.size W w1) := HB1.out.trans (b1.mono HB1.out.size)
 have HX2 : Hid (Blk w1 W.heap.size 41 (six p.1 na nc ka p.2.list.length kc)) := HX.out.below b1 HX.out.lt
 clear b1 HB1 HX
 by_cases hE : E = 0
 case neg =>
  obtain ⟨e1, e2⟩ := HN.out hE
  subst e1 e2
  have hEb : (EE != 0) = true := by simpa using hE
  go_wp2
  go_ret2
  exact ⟨_, rfl, World.ownsRow_nil _ _ _ _, HB2.out⟩
 subst hE
 obtain ⟨ka1, kl1⟩ := KA.out rfl
 have c0 : w1.cell? ⟨W.heap.size, 0, none⟩ = some (.int .i64 p.1.k) := HX2.out.cell 0
 have c1 : w1.cell? ⟨W.heap.size, 1, none⟩ = some (.int .i64 p.1.n) := HX2.out.cell 1
 have c2 : w1.cell? ⟨W.heap.size, 2, none⟩ = some (.int .i64 p.1.s) := HX2.out.cell 2
 have c3 : w1.cell? ⟨W.heap.size, 3, none⟩ = some (.string p.1.t) := HX2.out.cell 3
 have c4 : w1.cell? ⟨W.heap.size, 4, none⟩ = some (.slice na p.1.ns.length nc) := HX2.out.cell 4
 have c5 : w1.cell? ⟨W.heap.size, 5, none⟩ = some (.slice ka p.2.list.length kc) := HX2.out.cell 5
 have KV := ka1 na nc ka kc (.slice none 0 0) [] W.heap.size W w1 HV.out HB2.out (Nat.le_refl _) HB2.out.size (World.ownsRow_nil _ _ _ _) (by simp only [List.length_nil]; omega)
 clear KA HN ka1
 go_wp2_with fail
 refine KV.mono ?_
 clear KV c0 c1 c2 c3 c4 c5
 rintro e w2 ⟨v2, l2, rfl, H2⟩
 have HB3 : Hid (Below W.heap.size W w2) := H2.out.1.below (show Own w1 W.heap.size (.slice none 0 0) [] from World.ownsRow_nil _ _ _ _) HB2.out HB2.out.size (Nat.le_refl _)
 have HO2 : Hid (Own w2 W.heap.size v2 l2) := H2.out.1.own
 have HW2 : Hid (Wr [] (encV p) l2) := H2.out.2
 obtain ⟨ax, c, rfl, _, _, hlc, hcm⟩ := HO2.out.byt
 clear H2 HX2 HB2
 have hup : l2.length <= 100000000 := by have := HW2.out.up; simp only [List.length_nil] at this; omega
 by_cases hl : 65536 < l2.length
 . have hl2 : 65536 < (encV p).length := by have := HW2.out.up; simp only [List.length_nil] at this; omega
   obtain ⟨e1, e2⟩ := HL.out (by trivial) hl2
   subst e1 e2
   have hlb : decide ((65536 : Int) < (l2.length : Int)) = true := by simp; omega
   clear hl2
   go_wp2
   go_ret2
   exact ⟨_, rfl, World.ownsRow_nil _ _ _ _, HB3.out⟩
 . have e : l2 = encV p := by
    rcases HW2.out.out with h | h
    . simpa using h
    . exact absurd h hl
   obtain ⟨e1, e2⟩ := HY.out (by trivial) (by rw [<- e]; exact hl)
   subst e1
   have HO3 : Hid (Own w2 W.heap.size (.slice ax l2.length c) BB) := by rw [e2, <- e]; exact HO2.out
   have hlb : decide ((65536 : Int) < (l2.length : Int)) = false := by simp; omega
   clear e e2 HL HY
   go_wp2
   go_ret2
   exact ⟨_, rfl, HO3.out, HB3.out⟩
theorem encode_any (p : Vt) (hw : WfV p) (hws : ws p <= 800000) (na : Option Addr) (nc : Nat) (ka : Option Addr) (kc : Nat) (W : World) (hv : Vl W p na nc ka kc) :
 Calls Tryz.prog 110 #[.agg #[.int .i64 p.1.k, .int .i64 p.1.n, .int .i64 p.1.s, .string p.1.t, .slice na p.1.ns.length nc, .slice ka p.2.list.length kc]] W fun e w' => ∃ v', e = .returned (.tuple #[v', .int .i64 (encE p)]) /\ Hid (Own w' W.heap.size v' (encB p) /\ Below W.heap.size W w') :=
 encode_all p hw (fun h => by have := bound_V p hw (chk1 h); omega) na nc ka kc W hv
end Go.Proofs.YtpfiejmhnkcjbaaGreatDoor
namespace Go.Proofs.YtpfiejmhnkcjbaaGreatDoor
set_option maxHeartbeats 2000000
set_option maxRecDepth 8000
open Go.RowKit Math
set_option linter.unusedVariables false
set_option linter.unusedSimpArgs false
theorem pH_flat {h : Hd} {kl : Nat} (hw : Hok h) (ho : own h kl = 0) (h8 : h.k ≠ 8) (h9 : h.k ≠ 9) (x : List Nat) : (pH h x).length <= 62 + 60 * (h.t.size / 20) := by
 obtain ⟨hk, a1, a2, a3, a4, a5⟩ := form9 (own_fine ho).1
 unfold pH
 split
 . simp; omega
 split
 . split <;> simp <;> omega
 split
 . next h3 => have := pN_len _ _ (num9 hw ho (.inl h3)).1; omega
 split
 . next h4 => have := pN_len _ _ (num9 hw ho (.inr h4)).1; omega
 split
 . next h5 =>
   have hn : 0 <= h.n /\ h.n <= 9007199254740992 := by
    have := (own_fine ho).1
    unfold formed at this
    simp [h5] at this
    omega
   have := (D6.dig_size h.n.toNat (by omega)).2
   rw [List.length_cons, pD, bts_len]
   unfold dcB
   omega
 split
 . have := (pQ_len h.t).2; omega
 split
 . have := pB_len h.t; omega
 . omega
theorem prF_len : ∀ (f : Fo) (b : Bool) (ns : List ByteArray) (z : Bool), Wf f -> chk0 f = 0 -> (∀ x ∈ ns, x.size <= 40) -> (prF f b ns z).length <= 200 * f.ws
 | .nil, _, _, _, _, _, _ => by simp [prF]
 | .cons h k r, b, ns, z, hw, hc, hn => by
   have c1 := chk0_mem (p := (h, k)) hc (by simp [Fo.list])
   have c2 : chk0 r = 0 := by
    have e : chk0 (.cons h k r) = if chk0V (h, k) ≠ 0 then chk0V (h, k) else chk0 r := rfl
    rw [e, if_neg (by simpa using c1)] at hc
    exact hc
   obtain ⟨a, b'⟩ := own_of0 c1
   have hk := own_fine a
   have B3 := prF_len r b ns.tail false hw.2 c2 (fun x hx => hn x (List.mem_of_mem_tail hx))
   have B4 : (if b then pQ (ns.headD ⟨#[]⟩) ++ [58, 32] else []).length <= 124 := by
    cases b
    . simp
    . simp only [if_true]
      have hs : (ns.headD ⟨#[]⟩).size <= 40 := by
       cases ns with
       | nil => decide
       | cons x ns => exact hn x (by simp)
      have := (pQ_len (ns.headD ⟨#[]⟩)).2
      rw [List.length_append]
      simp only [List.length_cons, List.length_nil]
      omega
   have B5 : (if z then ([] : List Nat) else [44, 32]).length <= 2 := by cases z <;> simp
   have B2 : (pH h (prF k (decide (h.k = 9)) h.ns true)).length <= 62 + 60 * (h.t.size / 20) + 200 * k.ws := by
    by_cases h8 : h.k = 8
    . have := prF_len k false [] true hw.1.2.2 b' (by simp)
      rw [prF_false k [] h.ns true] at this
      have e : pH h (prF k (decide (h.k = 9)) h.ns true) = 91 :: (prF k false h.ns true ++ [93]) := by unfold pH; simp [h8]
      rw [e]
      simp only [List.length_cons, List.length_append, List.length_nil]
      omega
    by_cases h9 : h.k = 9
    . have := prF_len k true h.ns true hw.1.2.2 b' (names_len (hk.nm h9)).2
      have e : pH h (prF k (decide (h.k = 9)) h.ns true) = 123 :: (prF k true h.ns true ++ [125]) := by unfold pH; simp [h9]
      rw [e]
      simp only [List.length_cons, List.length_append, List.length_nil]
      omega
    . have := pH_flat hw.1.1 a h8 h9 (prF k (decide (h.k = 9)) h.ns true)
      omega
   rw [prF_cons (h, k)]
   unfold prV
   simp only [List.length_append]
   simp only [Fo.ws, wsH]
   omega
theorem prV_len (p : Vt) (hw : WfV p) (hc : chk0V p = 0) : (prV p).length <= 200 * ws p := by
 have h := prF_len (.cons p.1 p.2 .nil) false [] true ⟨hw, trivial⟩ (by rw [chk0_cons, if_neg (by simpa using hc)]; rfl) (by simp)
 rw [prF_cons] at h
 simp only [Bool.false_eq_true, if_false, if_true, List.nil_append, prF, List.append_nil, Fo.ws] at h
 exact h
theorem pN_pln (n : Int) (s : Nat) (hN : D6.Nu n s) : Pln (pN n s) := by
 obtain ⟨x, r, e, _, h⟩ := pN_first n s hN
 rw [e]
 exact fun y hy => nsg_pln (h y hy)
theorem pH_pln {h : Hd} {kl : Nat} {x : List Nat} (hw : Hok h) (ho : own h kl = 0) (hx : h.k = 8 ∨ h.k = 9 -> Pln x) : Pln (pH h x) := by
 obtain ⟨hk, a1, a2, a3, a4, a5⟩ := form9 (own_fine ho).1
 unfold pH
 split
 . intro y hy; simp at hy; omega
 split
 . split
   . intro y hy; simp at hy; omega
   . intro y hy; simp at hy; omega
 split
 . next h3 => exact pN_pln _ _ (num9 hw ho (.inl h3)).1
 split
 . next h4 => exact pN_pln _ _ (num9 hw ho (.inr h4)).1
 split
 . next h5 =>
   have hn : 0 <= h.n /\ h.n <= 9007199254740992 := by
    have := (own_fine ho).1
    unfold formed at this
    simp [h5] at this
    omega
   rw [<- pN_nat]
   exact Pln.cons (by omega) (pN_pln _ _ (nat_nu (by omega)))
 split
 . exact pQ_pln _
 split
 . exact pB_pln _
 split
 . next h8 => exact Pln.cons (by omega) ((hx (.inl h8)).app (pln_one (by omega)))
 . next h8 => exact Pln.cons (by omega) ((hx (.inr (by omega))).app (pln_one (by omega)))
theorem prF_pln : ∀ (f : Fo) (b : Bool) (ns : List ByteArray) (z : Bool), Wf f -> chk0 f = 0 -> Pln (prF f b ns z)
 | .nil, _, _, _, _, _ => fun x hx => by cases hx
 | .cons h k r, b, ns, z, hw, hc => by
   have c1 := chk0_mem (p := (h, k)) hc (by simp [Fo.list])
   have c2 : chk0 r = 0 := by
    have e : chk0 (.cons h k r) = if chk0V (h, k) ≠ 0 then chk0V (h, k) else chk0 r := rfl
    rw [e, if_neg (by simpa using c1)] at hc
    exact hc
   obtain ⟨a, b'⟩ := own_of0 c1
   rw [prF_cons (h, k)]
   refine Pln.app ?_ (Pln.app ?_ (Pln.app (pH_pln hw.1.1 a fun _ => prF_pln k _ _ _ hw.1.2.2 b') (prF_pln r _ _ _ hw.2 c2)))
   . cases z
     . exact pln_two (by omega) (by omega)
     . exact fun x hx => by cases hx
   . cases b
     . exact fun x hx => by cases hx
     . exact (pQ_pln _).app (pln_two (by omega) (by omega))
theorem prV_pln (p : Vt) (hw : WfV p) (hc : chk0V p = 0) : Pln (prV p) := pH_pln hw.1 (own_of0 hc).1 fun _ => prF_pln _ _ _ _ hw.2.2 (own_of0 hc).2
def prB (p : Vt) : List Nat := if encE p = 0 then prV p else []
def prT (p : Vt) : ByteArray := ofB (prB p)
theorem encE_chk {p : Vt} (h : encE p = 0) : chkV p 1 = 0 := by
 unfold encE at h
 split at h
 . exact h
 . next h1 => exact Classical.byContradiction h1
theorem encE_chk0 {p : Vt} (h : encE p = 0) : chk0V p = 0 := chk1 (encE_chk h)
theorem prT_yes {p : Vt} (hw : WfV p) (h : encE p = 0) : bts (prT p) = prV p := by
 unfold prT prB
 rw [if_pos h, bts_ofB _ (prV_pln p hw (encE_chk0 h)).oct]
theorem prT_no {p : Vt} (h : encE p ≠ 0) : prT p = em := by
 unfold prT prB
 rw [if_neg h]
 rfl
def zbl : List Value := [.pointer none, .slice none 0 0]
theorem z68 : (Tryz.prog.info? 86).map (fun i => i.zero.map (·.cells)) = some (some zbl.toArray) := by kernel_rfl
theorem bs_new {g B : Nat} {w : World} (h : Blk w g 86 zbl) (hB : B <= g) : Bs g B w (.slice none 0 0) [] := ⟨.inl h, World.ownsRow_nil _ _ _ _, by simp [Value.ownBlock], hB⟩
theorem print_any (p : Vt) (hw : WfV p) (hws : ws p <= 800000) (na : Option Addr) (nc : Nat) (ka : Option Addr) (kc : Nat) (W : World) (hv : Vl W p na nc ka kc) (ht : D6.Ptab W) :
 Calls Tryz.prog 80 #[.agg #[.int .i64 p.1.k, .int .i64 p.1.n, .int .i64 p.1.s, .string p.1.t, .slice na p.1.ns.length nc, .slice ka p.2.list.length kc]] W fun e w' => e = .returned (.tuple #[.string (prT p), .int .i64 (encE p)]) /\ Below W.heap.size W w' := by
 obtain ⟨W1, HW1⟩ : ∃ W1, Hid (W.alloc (.cells #[.int .i64 p.1.k, .int .i64 p.1.n, .int .i64 p.1.s, .string p.1.t, .slice na p.1.ns.length nc, .slice ka p.2.list.length kc] 41) = W1) := ⟨_, rfl⟩
 have HB1 : Hid (Below W.heap.size W W1) := by rw [<- HW1.out]; exact (Below.refl _ _).alloc (Nat.le_refl _) _
 have HX1 : Hid (Blk W1 W.heap.size 41 (six p.1 na nc ka p.2.list.length kc)) := by rw [<- HW1.out]; exact blk_new W 41 (six p.1 na nc ka p.2.list.length kc)
 have HV : Hid (Vl W p na nc ka kc) := hv
 have HTb : Hid (D6.Ptab W) := ht
 have HWf : Hid (WfV p) := hw
 have K := encode_any p hw hws na nc ka kc W1 (hv.below HB1.out)
 have c0 : W1.cell? ⟨W.heap.size, 0, none⟩ = some (.int .i64 p.1.k) := HX1.out.cell 0
 have c1 : W1.cell? ⟨W.heap.size, 1, none⟩ = some (.int .i64 p.1.n) := HX1.out.cell 1
 have c2 : W1.cell? ⟨W.heap.size, 2, none⟩ = some (.int .i64 p.1.s) := HX1.out.cell 2
 have c3 : W1.cell? ⟨W.heap.size, 3, none⟩ = some (.string p.1.t) := HX1.out.cell 3
 have c4 : W1.cell? ⟨W.heap.size, 4, none⟩ = some (.slice na p.1.ns.length nc) := HX1.out.cell 4
 have c5 : W1.cell? ⟨W.heap.size, 5, none⟩ = some (.slice ka p.2.list.length kc) := HX1.out.cell 5
 have HLn : Hid (encE p = 0 -> WvC p /\ (prV p).length <= 160000000 /\ bts (prT p) = prV p /\ Oct (prV p)) := fun h => ⟨wv_any _ p (Nat.le_refl _) hw (encE_chk0 h), by have := prV_len p hw (encE_chk0 h); omega, prT_yes hw h, (prV_pln p hw (encE_chk0 h)).oct⟩
 have HNo : Hid (encE p ≠ 0 -> prT p = em) := prT_no
 obtain ⟨E, hE⟩ : ∃ E, encE p = E := ⟨_, rfl⟩
 obtain ⟨T, hT⟩ : ∃ T, prT p = T := ⟨_, rfl⟩
 rw [hE] at K HLn HNo ⊢
 rw [hT] at HLn HNo ⊢
 clear hv ht hw hE hT
 go_enter Tryz.func80, Tryz.ntmps80
 go_wp2_with fail
 generalize hWW : World.alloc W _ = W9
 obtain rfl : W1 = W9 := by rw [<- hWW, <- HW1.out]
 clear hWW HW1
 refine K.mono ?_
 rintro e w2 ⟨v2, rfl, H2⟩
 have HB2 : Hid (Below W1.heap.size W1 w2) := H2.out.2
 have HX2 : Hid (Blk w2 W.heap.size 41 (six p.1 na nc ka p.2.list.length kc)) := HX1.out.below HB2.out HX1.out.lt
 have HBB : Hid (Below W.heap.size W w2) := HB1.out.trans (HB2.out.mono HB1.out.size)
 clear K H2 c0 c1 c2 c3 c4 c5 HX1
 by_cases hE0 : E = 0
 case neg =>
  have hne : (E != 0) = true := by simpa using hE0
  obtain rfl : T = em := HNo.out hE0
  clear HLn HNo HX2 hE0
  go_wp2
  go_ret2
  exact ⟨rfl, HBB.out⟩
 subst hE0
 have HL : Hid (WvC p /\ (prV p).length <= 160000000 /\ bts T = prV p /\ Oct (prV p)) := HLn.out rfl
 clear HLn HNo
 go_wp2_with (refine al_zero rfl 86 rfl zbl z68 ?_)
 intro g w3 hg b3 gr3
 have HB3 : Hid (Below w2.heap.size w2 w3) := (Below.refl _ _).grown gr3 (Nat.le_refl _) (fun k e => by cases e)
 have hz2 : W.heap.size < w2.heap.size := HX2.out.lt
 have HS : Hid (Bs g w2.heap.size w3 (.slice none 0 0) []) := bs_new b3 hg
 have HX3 : Hid (Blk w3 W.heap.size 41 (six p.1 na nc ka p.2.list.length kc)) := HX2.out.below HB3.out hz2
 have HB03 : Hid (Below W.heap.size W w3) := HBB.out.trans (HB3.out.mono (by omega))
 have K3 := HL.out.1 na nc ka kc g w2.heap.size (.slice none 0 0) [] W w3 HV.out HB03.out (by omega) HTb.out HS.out (by have := HL.out.2.1; simp only [List.length_nil]; omega)
 have d0 : w3.cell? ⟨W.heap.size, 0, none⟩ = some (.int .i64 p.1.k) := HX3.out.cell 0
 have d1 : w3.cell? ⟨W.heap.size, 1, none⟩ = some (.int .i64 p.1.n) := HX3.out.cell 1
 have d2 : w3.cell? ⟨W.heap.size, 2, none⟩ = some (.int .i64 p.1.s) := HX3.out.cell 2
 have d3 : w3.cell? ⟨W.heap.size, 3, none⟩ = some (.string p.1.t) := HX3.out.cell 3
 have d4 : w3.cell? ⟨W.heap.size, 4, none⟩ = some (.slice na p.1.ns.length nc) := HX3.out.cell 4
 have d5 : w3.cell? ⟨W.heap.size, 5, none⟩ = some (.slice ka p.2.list.length kc) := HX3.out.cell 5
 clear b3 gr3 HX2
 go_wp2_with fail
 refine K3.mono ?_
 rintro e w4 ⟨v4, rfl, H4⟩
 have HBw : Hid (Below w2.heap.size w2 w4) := H4.out.down HS.out HB3.out (Nat.le_refl _)
 have K4 := bstr9 H4.out.bs (by rw [List.nil_append]; exact HL.out.2.2.2)
 rw [List.nil_append] at K4
 have HTT : Hid (ofB (prV p) = T) := by
  show _ = _
  rw [<- HL.out.2.2.1, ofB_bts]
 rw [HTT.out] at K4
 clear K3 H4 HX3 d0 d1 d2 d3 d4 d5 HTT HL
 go_wp2_with fail
 refine K4.mono ?_
 rintro e w5 ⟨rfl, b5⟩
 have HF : Hid (Below W.heap.size W w5) := (HBB.out.trans (HBw.out.mono (by omega))).trans (b5.mono (by omega))
 clear K4 b5 HBw
 go_wp2
 go_ret2
 exact ⟨rfl, HF.out⟩
end Go.Proofs.YtpfiejmhnkcjbaaGreatDoor
