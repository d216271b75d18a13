/-
   ·  ·  · 
-/
import Derived.Test.YtpfiejmhnkcjbaaGreatDoorHG4x
import Derived.Test.YtpfiejmhnkcjbaaGreatDoorHVc
import Derived.Test.YtpfiejmhnkcjbaaGreatDoorHG34x
import Derived.Test.YtpfiejmhnkcjbaaGreatDoorHG39x
import Derived.Test.YtpfiejmhnkcjbaaGreatDoorHG37x
import Derived.Test.YtpfiejmhnkcjbaaGreatDoorHG38x
namespace Go.Proofs.YtpfiejmhnkcjbaaGreatDoor
set_option maxHeartbeats 4000000
set_option maxRecDepth 8000
open Go.RowKit
set_option linter.unusedVariables false
def ptH (h : Hd) : Nat := 1 + h.t.size
def Fo.pt : Fo -> Nat
 | .nil => 0
 | .cons h k r => ptH h + k.pt + r.pt
def pt (p : Vt) : Nat := ptH p.1 + p.2.pt
theorem pt_step {f : Fo} {k : Nat} {q : Vt} (h : f.list[k]? = some q) : (f.drop k).pt = pt q + (f.drop (k + 1)).pt := by
 rw [Fo.drop_at f k q h]; rfl
theorem gtp_cast (m : Nat) : Ending.returned (.bool (decide ((65536 : Int) < (m : Int)))) = .returned (.bool (decide (65536 < m))) := by
 have : ((65536 : Int) < (m : Int)) ↔ 65536 < m := by omega
 simp only [this]
structure Pg (W W' : World) (g m m' s : Nat) : Prop where
 gr : W.grownBy W' (some g)
 blk : Blk W' g 3 [.int .i64 (m' : Int)]
 max : m' <= 1000000000000000
 ge : m' <= m + s
def PIh (p : Vt) : Prop := ∀ q : Vt, wt q < wt p -> WfV q -> ∀ (na : Option Addr) (nc : Nat) (ka : Option Addr) (kc : Nat) (g m : Nat) (w0 W : World), Vl w0 q na nc ka kc -> Below w0.heap.size w0 W -> w0.heap.size <= g -> Blk W g 3 [.int .i64 (m : Int)] -> m <= 65536 ->
 Calls Tryz.prog 113 #[.agg #[.int .i64 q.1.k, .int .i64 q.1.n, .int .i64 q.1.s, .string q.1.t, .slice na q.1.ns.length nc, .slice ka q.2.list.length kc], .pointer (some ⟨g, 0, none⟩)] W fun e W' => ∃ m', e = .returned (.bool (decide (65536 < m'))) /\ Hid (Pg W W' g m m' (pt q))
theorem parts_step (p : Vt) (ih : PIh p) (hwf : WfV p) (na : Option Addr) (nc : Nat) (ka : Option Addr) (kc : Nat) (g m : Nat) (w0 W : World) (hv : Vl w0 p na nc ka kc) (hb : Below w0.heap.size w0 W) (hg : w0.heap.size <= g) (hm : Blk W g 3 [.int .i64 (m : Int)]) (hm2 : m <= 65536) :
 Calls Tryz.prog 113 #[.agg #[.int .i64 p.1.k, .int .i64 p.1.n, .int .i64 p.1.s, .string p.1.t, .slice na p.1.ns.length nc, .slice ka p.2.list.length kc], .pointer (some ⟨g, 0, none⟩)] W fun e W' => ∃ m', e = .returned (.bool (decide (65536 < m'))) /\ Hid (Pg W W' g m m' (pt p)) := by
 have hkl := hwf.2.1
 have htl := hwf.1.t1
 have hnl := hwf.1.c1
 obtain ⟨W1, HW1⟩ : ∃ W1, Hid (W.alloc (.cells #[.int .i64 p.1.k, .int .i64 p.1.n, .int .i64 p.1.s, .string p.1.t, .slice na p.1.ns.length nc, .slice ka p.2.list.length kc] 41) = W1) := ⟨_, rfl⟩
 have bx : Blk W1 W.heap.size 41 (six p.1 na nc ka p.2.list.length kc) := by rw [<- HW1.out]; exact blk_new W 41 _
 have bm : Blk W1 g 3 [.int .i64 (m : Int)] := by rw [<- HW1.out]; exact hm.alloc _
 have g1 : W.grownBy W1 none := by rw [<- HW1.out]; exact World.grownBy_alloc W _ none
 have hne : g ≠ W.heap.size := Nat.ne_of_lt hm.lt
 have c0 : W1.cell? ⟨g, 0, none⟩ = some (.int .i64 (m : Int)) := bm.cell 0
 have c3 : W1.cell? ⟨W.heap.size, 3, none⟩ = some (.string p.1.t) := bx.cell 3
 have c4 : W1.cell? ⟨W.heap.size, 4, none⟩ = some (.slice na p.1.ns.length nc) := bx.cell 4
 have fr : W1.frozen? ⟨g, 0, none⟩ = false := bm.frozen 0
 have HS : Hid (pt p = ptH p.1 + p.2.pt) := rfl
 have HSh : Hid (ptH p.1 = 1 + p.1.t.size) := rfl
 have HI : Hid (PIh p) := ih
 have HW : Hid (WfV p) := hwf
 have HV : Hid (Vl w0 p na nc ka kc) := hv
 have HB : Hid (Below w0.heap.size w0 W) := hb
 have HBx : Hid (Blk W1 W.heap.size 41 (six p.1 na nc ka p.2.list.length kc)) := bx
 have HBm : Hid (Blk W1 g 3 [.int .i64 (m : Int)]) := bm
 have HG1 : Hid (W.grownBy W1 none) := g1
 generalize pt p = WS at *
 clear ih hwf hv hb bx bm g1 hm
 go_enter Tryz.func113, Tryz.ntmps113
 go_wp2
 generalize hWW : World.alloc W _ = W2
 obtain rfl : W1 = W2 := by rw [<- hWW, <- HW1.out]
 clear hWW HW1
 obtain ⟨m1, HM1⟩ : ∃ m1 : Nat, Hid (m1 = m + 1 + p.1.t.size) := ⟨_, rfl⟩
 have hm1 : m1 <= 1000000000000000 := by rw [HM1.out]; omega
 have HX : Hid ((m : Int) + 1 + (p.1.t.size : Int) = (m1 : Int)) := by
  show _ = _
  rw [HM1.out]
  omega
 go_region
 all_goals go_wp2
 rw [HX.out]
 obtain ⟨W2, HW2⟩ : ∃ W2, Hid ((W1.setCell ⟨g, 0, none⟩ (.int .i64 (m1 : Int))).drew = W2) := ⟨_, rfl⟩
 rw [HW2.out]
 have HG2 : Hid (W1.grownBy W2 (some g)) := by
  rw [<- HW2.out]
  have h := grown_setCell W1 ⟨g, 0, none⟩ (.int .i64 (m1 : Int))
  exact ⟨h.os, h.tape, h.output, h.size, h.block⟩
 have HB2 : Hid (Blk W2 g 3 [.int .i64 (m1 : Int)]) := by
  rw [<- HW2.out]
  exact HBm.out.set 0 (.int .i64 (m1 : Int))
 have HX2 : Hid (Blk W2 W.heap.size 41 (six p.1 na nc ka p.2.list.length kc)) := HBx.out.kept HG2.out (fun e => hne (Option.some.inj e).symm)
 have HBw : Hid (Below w0.heap.size w0 W2) := (HB.out.grown HG1.out HB.out.size (fun k e => by cases e)).grown HG2.out (Nat.le_trans HB.out.size HG1.out.size) (fun k e => by cases e; exact hg)
 have HGW : Hid (W.grownBy W2 (some g)) := by
  have h1 := HG1.out
  have h2 := HG2.out
  exact ⟨h2.os.trans h1.os, h2.tape.trans h1.tape, h2.output.trans h1.output, Nat.le_trans h1.size h2.size, fun k hk hne => (h2.block k (Nat.lt_of_lt_of_le hk h1.size) hne).trans (h1.block k hk (by simp))⟩
 clear HW2 HX c0 c3 c4 fr HBx HBm HG1 HG2
 go_loopw [5] (fun i wr => ∃ k m' : Nat, k <= p.2.list.length /\ i = .int .i64 (k : Int) /\ m' <= 1000000000000000 /\ Hid (Blk wr g 3 [.int .i64 (m' : Int)]) /\ Hid (W2.grownBy wr (some g)) /\ Hid (m' + (p.2.drop k).pt <= m1 + p.2.pt)) (fun i _ => p.2.list.length - (intOf i).toNat)
 case atStart => exact ⟨0, m1, by omega, rfl, hm1, HB2.out, World.grownBy.refl _ _, by show _ <= _; simp [Fo.drop]⟩
 case round =>
  obtain ⟨k, m', hk0, rfl, hmm, HBk, HGk, HMk⟩ := hrel
  have cg : wr.cell? ⟨g, 0, none⟩ = some (.int .i64 (m' : Int)) := HBk.out.cell 0
  have HXk : Hid (Blk wr W.heap.size 41 (six p.1 na nc ka p.2.list.length kc)) := HX2.out.kept HGk.out (fun e => hne (Option.some.inj e).symm)
  have c5 : wr.cell? ⟨W.heap.size, 5, none⟩ = some (.slice ka p.2.list.length kc) := HXk.out.cell 5
  have HGr : Hid (W.grownBy wr (some g)) := by
   have h1 := HGW.out
   have h2 := HGk.out
   exact ⟨h2.os.trans h1.os, h2.tape.trans h1.tape, h2.output.trans h1.output, Nat.le_trans h1.size h2.size, fun k hk hne => (h2.block k (Nat.lt_of_lt_of_le hk h1.size) hne).trans (h1.block k hk hne)⟩
  by_cases hlt : k < p.2.list.length /\ m' <= 65536
  case neg =>
   have hfin : m' <= m + WS := by
    have h1 := HMk.out
    have h2 := HS.out
    have h3 := HSh.out
    have h4 := HM1.out
    omega
   have HF : Hid (m' <= m + WS) := hfin
   clear hfin HMk
   by_cases h1 : k < p.2.list.length
   . have h2 : ¬ m' <= 65536 := fun e => hlt ⟨h1, e⟩
     have h3 : decide ((m' : Int) <= 65536) = false := by simp; omega
     go_wp2
     go_ret
     exact ⟨m', by first | exact gtp_cast m' | rfl | exact gtp_yes m' (by omega), ⟨HGr.out, HBk.out, hmm, HF.out⟩⟩
   . go_wp2
     go_ret
     exact ⟨m', by first | exact gtp_cast m' | rfl | exact gtp_yes m' (by omega), ⟨HGr.out, HBk.out, hmm, HF.out⟩⟩
  obtain ⟨hlt, hle⟩ := hlt
  have h3 : decide ((m' : Int) <= 65536) = true := by simp; omega
  have HBr : Hid (Below w0.heap.size w0 wr) := HBw.out.grown HGk.out HBw.out.size (fun k e => by cases e; exact hg)
  obtain ⟨q, b, o, na', nc', ka', kc', hq, rfl, hnd, hvl⟩ := HV.out.kid (Below.refl _ _) (k := k) hlt
  have HQ := HI.out q (wt_kid (List.mem_of_getElem? hq)) (HW.out.kid (List.mem_of_getElem? hq)) na' nc' ka' kc' g m' w0 wr hvl HBr.out hg HBk.out hle
  obtain ⟨d0, d1, d2, d3, d4, d5⟩ := hnd.below HBr.out
  have HWq : Hid ((p.2.drop k).pt = pt q + (p.2.drop (k + 1)).pt) := pt_step hq
  generalize pt q = WQ at *
  clear hnd hvl hq
  go_wp2_with fail
  refine HQ.mono ?_
  rintro e w3 ⟨m3, rfl, h3r⟩
  clear HQ
  go_wp2
  go_roundw
  case rel =>
   have h1 := HGk.out
   have h2 := h3r.out.gr
   refine ⟨k + 1, m3, by omega, by go_num, h3r.out.max, h3r.out.blk, ⟨h2.os.trans h1.os, h2.tape.trans h1.tape, h2.output.trans h1.output, Nat.le_trans h1.size h2.size, fun k hk hne => (h2.block k (Nat.lt_of_lt_of_le hk h1.size) hne).trans (h1.block k hk hne)⟩, ?_⟩
   show _ <= _
   have h5 := h3r.out.ge
   have h6 := HMk.out
   have h7 := HWq.out
   omega
  case measure => simp [intOf]; omega
theorem parts_any : ∀ (N : Nat) (q : Vt), wt q <= N -> WfV q -> ∀ (na : Option Addr) (nc : Nat) (ka : Option Addr) (kc : Nat) (g m : Nat) (w0 W : World), Vl w0 q na nc ka kc -> Below w0.heap.size w0 W -> w0.heap.size <= g -> Blk W g 3 [.int .i64 (m : Int)] -> m <= 65536 ->
 Calls Tryz.prog 113 #[.agg #[.int .i64 q.1.k, .int .i64 q.1.n, .int .i64 q.1.s, .string q.1.t, .slice na q.1.ns.length nc, .slice ka q.2.list.length kc], .pointer (some ⟨g, 0, none⟩)] W fun e W' => ∃ m', e = .returned (.bool (decide (65536 < m'))) /\ Hid (Pg W W' g m m' (pt q)) := by
 intro N
 induction N with
 | zero => intro p hp; exfalso; unfold wt at hp; omega
 | succ N ih =>
   intro p hp hwf na nc ka kc g m w0 W hv hb hg hm hm2
   exact parts_step p (fun q hq hwq na nc ka kc g m w0 W h1 h2 h3 h4 h5 => ih q (by omega) hwq na nc ka kc g m w0 W h1 h2 h3 h4 h5) hwf na nc ka kc g m w0 W hv hb hg hm hm2
end Go.Proofs.YtpfiejmhnkcjbaaGreatDoor
namespace Go.Proofs.YtpfiejmhnkcjbaaGreatDoor
set_option maxHeartbeats 1000000
set_option maxRecDepth 8000
open Go.RowKit Math
set_option linter.unusedVariables false
theorem only_t {h : Hd} {kl : Nat} {F : Int} (e : only h kl F = true) (hF : F ≠ 4) : h.t.size = 0 := by
 simp only [only, Bool.and_eq_true, Bool.or_eq_true, decide_eq_true_eq] at e
 rcases e.1.1.2 with h3 | h3
 . exact absurd h3 hF
 . rw [em_of h3]; rfl
theorem formed_t {h : Hd} {kl : Nat} (e : formed h kl = true) : h.k = 6 ∨ h.k = 7 ∨ h.t.size = 0 := by
 unfold formed at e
 split at e
 . exact .inr (.inr (only_t e (by decide)))
 split at e
 . rw [Bool.and_eq_true] at e; exact .inr (.inr (only_t e.1 (by decide)))
 split at e
 . exact .inr (.inr (only_t e (by decide)))
 split at e
 . simp only [Bool.and_eq_true] at e; exact .inr (.inr (only_t e.1.1.1 (by decide)))
 split at e
 . simp only [Bool.and_eq_true] at e; exact .inr (.inr (only_t e.1.1 (by decide)))
 split at e
 . next h6 => exact .inl h6
 split at e
 . next h7 => exact .inr (.inl h7)
 split at e
 . exact .inr (.inr (only_t e (by decide)))
 split at e
 . exact .inr (.inr (only_t e (by decide)))
 . cases e
theorem head_low {h : Hd} {kl : Nat} (ho : own h kl = 0) : ptH h <= (headB h kl).length := by
 have hf := (own_fine ho).1
 unfold ptH headB
 rw [List.length_cons]
 rcases formed_t hf with h6 | h7 | h0
 . have : bodyB h kl = txB h.t := by unfold bodyB; simp [h6]
   rw [this, txB, List.length_append, bts_len]; omega
 . have : bodyB h kl = txB h.t := by unfold bodyB; simp [h7]
   rw [this, txB, List.length_append, bts_len]; omega
 . omega
theorem low_enc : ∀ (f : Fo) (b : Bool) (ns : List ByteArray), chk0 f = 0 -> f.pt <= (enc f b ns).length
 | .nil, _, _, _ => by simp [enc, Fo.pt]
 | .cons h k r, b, ns, hc => by
   have c1 := chk0_mem (p := (h, k)) hc (by simp [Fo.list])
   have c2 : chk0 r = 0 := by
    have e : chk0 (.cons h k r) = if chk0V (h, k) ≠ 0 then chk0V (h, k) else chk0 r := rfl
    rw [e, if_neg (by simpa using c1)] at hc
    exact hc
   obtain ⟨a, b'⟩ := own_of0 c1
   have B1 : ptH h <= (headB h k.list.length).length := head_low a
   have B2 := low_enc k (decide (h.k = 9)) h.ns b'
   have B3 := low_enc r b ns.tail c2
   have e : enc (.cons h k r) b ns = ((if b then txB (ns.headD ⟨#[]⟩) else []) ++ (headB h k.list.length ++ enc k (decide (h.k = 9)) h.ns)) ++ enc r b ns.tail := rfl
   rw [e, List.length_append, List.length_append, List.length_append]
   simp only [Fo.pt]
   omega
theorem low_V (p : Vt) (hc : chk0V p = 0) : pt p <= (encV p).length := by
 have h := low_enc (.cons p.1 p.2 .nil) false [] (by rw [chk0_cons, if_neg (by simpa using hc)]; rfl)
 rw [enc_cons] at h
 simp only [Bool.false_eq_true, if_false, List.nil_append, enc, List.append_nil, Fo.pt] at h
 exact h
theorem rencode_any (p : Vt) (hw : WfV p) (hws : ws p <= 100000) (na : Option Addr) (nc : Nat) (ka : Option Addr) (kc : Nat) (W : World) (hv : Vl W p na nc ka kc) :
 Calls Tryz.prog 90 #[.agg #[.int .i64 p.1.k, .int .i64 p.1.n, .int .i64 p.1.s, .string p.1.t, .slice na p.1.ns.length nc, .slice ka p.2.list.length kc]] W fun e w' => ∃ v', e = .returned (.tuple #[v', .int .i64 (encE p)]) /\ Hid (Own w' W.heap.size v' (encB p) /\ Below W.heap.size W w') := by
 obtain ⟨W1, HW1⟩ : ∃ W1, Hid (W.alloc (.cells #[.int .i64 p.1.k, .int .i64 p.1.n, .int .i64 p.1.s, .string p.1.t, .slice na p.1.ns.length nc, .slice ka p.2.list.length kc] 41) = W1) := ⟨_, rfl⟩
 have HX : Hid (Blk W1 W.heap.size 41 (six p.1 na nc ka p.2.list.length kc)) := by rw [<- HW1.out]; exact blk_new W 41 (six p.1 na nc ka p.2.list.length kc)
 have HB1 : Hid (Below W.heap.size W W1) := by rw [<- HW1.out]; exact (Below.refl _ _).alloc (Nat.le_refl _) _
 have hz1 : W1.heap.size = W.heap.size + 1 := by have := HW1.out; subst this; simp
 have HV : Hid (Vl W p na nc ka kc) := hv
 have KC := rCheck_any p hw na nc ka kc W1 (hv.below HB1.out)
 have KA : Hid (chkV p 1 = 0 -> RbC p /\ (encV p).length <= 12000000 /\ pt p <= (encV p).length) := fun h => ⟨rb_any _ p (Nat.le_refl _) hw (chk1 h), (by have := bound_V p hw (chk1 h); omega), low_V p (chk1 h)⟩
 have HN : Hid (chkV p 1 ≠ 0 -> encE p = chkV p 1 /\ encB p = []) := encE_no
 have HL : Hid (chkV p 1 = 0 -> 65536 < (encV p).length -> encE p = 5 /\ encB p = []) := encE_long
 have HY : Hid (chkV p 1 = 0 -> ¬ 65536 < (encV p).length -> encE p = 0 /\ encB p = encV p) := encE_yes
 have HWf : Hid (WfV p) := hw
 generalize encE p = EE at *
 generalize encB p = BB at *
 generalize chkV p 1 = E at *
 clear hv hw
 go_enter Tryz.func90, Tryz.ntmps90
 go_wp2_with fail
 generalize hWW : World.alloc W _ = W9
 obtain rfl : W1 = W9 := by rw [<- hWW, <- HW1.out]
 clear hWW HW1
 refine KC.mono ?_
 clear KC
 rintro e w1 ⟨rfl, b1⟩
 have HB2 : Hid (Below W.heap.size W w1) := HB1.out.trans (b1.mono HB1.out.size)
 have HX2 : Hid (Blk w1 W.heap.size 41 (six p.1 na nc ka p.2.list.length kc)) := HX.out.below b1 HX.out.lt
 have hs1 := b1.size
 clear b1 HB1 HX
 by_cases hE : E = 0
 case neg =>
  obtain ⟨e1, e2⟩ := HN.out hE
  subst e1 e2
  have hEb : (EE != 0) = true := by simpa using hE
  go_wp2
  go_ret2
  exact ⟨_, rfl, World.ownsRow_nil _ _ _ _, HB2.out⟩
 subst hE
 obtain ⟨ka1, kl1, kp1⟩ := KA.out rfl
 clear KA HN
 obtain ⟨w3, HW3⟩ : ∃ w3, Hid (w1.alloc (.cells #[.int .i64 0] 3) = w3) := ⟨_, rfl⟩
 have hgW : W.heap.size < w1.heap.size := HX2.out.lt
 have HG3 : Hid (Blk w3 w1.heap.size 3 [.int .i64 ((0 : Nat) : Int)]) := by rw [<- HW3.out]; exact blk_new w1 3 [.int .i64 0]
 have HX4 : Hid (Blk w3 W.heap.size 41 (six p.1 na nc ka p.2.list.length kc)) := by rw [<- HW3.out]; exact HX2.out.alloc _
 have HB4 : Hid (Below W.heap.size W w3) := by rw [<- HW3.out]; exact HB2.out.alloc HB2.out.size _
 have c0 : w1.cell? ⟨W.heap.size, 0, none⟩ = some (.int .i64 p.1.k) := HX2.out.cell 0
 have c1 : w1.cell? ⟨W.heap.size, 1, none⟩ = some (.int .i64 p.1.n) := HX2.out.cell 1
 have c2 : w1.cell? ⟨W.heap.size, 2, none⟩ = some (.int .i64 p.1.s) := HX2.out.cell 2
 have c3 : w1.cell? ⟨W.heap.size, 3, none⟩ = some (.string p.1.t) := HX2.out.cell 3
 have c4 : w1.cell? ⟨W.heap.size, 4, none⟩ = some (.slice na p.1.ns.length nc) := HX2.out.cell 4
 have c5 : w1.cell? ⟨W.heap.size, 5, none⟩ = some (.slice ka p.2.list.length kc) := HX2.out.cell 5
 have KP := parts_any _ p (Nat.le_refl _) HWf.out na nc ka kc w1.heap.size 0 W w3 HV.out HB4.out (by omega) HG3.out (by omega)
 clear HB2 HX2
 go_wp2_with fail
 generalize hWW : World.alloc w1 _ = W9
 obtain rfl : w3 = W9 := by rw [<- hWW, <- HW3.out]
 clear hWW HW3
 refine KP.mono ?_
 clear KP c0 c1 c2 c3 c4 c5
 rintro e w4 ⟨m, rfl, H4⟩
 have HX5 : Hid (Blk w4 W.heap.size 41 (six p.1 na nc ka p.2.list.length kc)) := HX4.out.kept H4.out.gr (fun e => by injection e with e; omega)
 have HB5 : Hid (Below W.heap.size W w4) := HB4.out.grown H4.out.gr HB4.out.size (fun k e => by injection e with e; omega)
 have hm : m <= pt p := by have := H4.out.ge; omega
 clear H4 HX4 HB4 HG3
 by_cases hbig : 65536 < m
 . have hl2 : 65536 < (encV p).length := by omega
   obtain ⟨e1, e2⟩ := HL.out (by trivial) hl2
   subst e1 e2
   have hd : decide (65536 < m) = true := by simpa using hbig
   rw [hd]
   clear hl2 hm
   go_wp2
   go_ret2
   exact ⟨_, rfl, World.ownsRow_nil _ _ _ _, HB5.out⟩
 have hd : decide (65536 < m) = false := by simpa using hbig
 rw [hd]
 have c0 : w4.cell? ⟨W.heap.size, 0, none⟩ = some (.int .i64 p.1.k) := HX5.out.cell 0
 have c1 : w4.cell? ⟨W.heap.size, 1, none⟩ = some (.int .i64 p.1.n) := HX5.out.cell 1
 have c2 : w4.cell? ⟨W.heap.size, 2, none⟩ = some (.int .i64 p.1.s) := HX5.out.cell 2
 have c3 : w4.cell? ⟨W.heap.size, 3, none⟩ = some (.string p.1.t) := HX5.out.cell 3
 have c4 : w4.cell? ⟨W.heap.size, 4, none⟩ = some (.slice na p.1.ns.length nc) := HX5.out.cell 4
 have c5 : w4.cell? ⟨W.heap.size, 5, none⟩ = some (.slice ka p.2.list.length kc) := HX5.out.cell 5
 have KV := ka1 na nc ka kc (.slice none 0 0) [] W.heap.size W w4 HV.out HB5.out (Nat.le_refl _) HB5.out.size (World.ownsRow_nil _ _ _ _) (by simp only [List.length_nil]; omega)
 clear ka1 hm kp1
 go_wp2_with fail
 refine KV.mono ?_
 clear KV c0 c1 c2 c3 c4 c5
 rintro e w5 ⟨v2, l2, rfl, H2⟩
 have HB6 : Hid (Below W.heap.size W w5) := H2.out.1.below (show Own w4 W.heap.size (.slice none 0 0) [] from World.ownsRow_nil _ _ _ _) HB5.out HB5.out.size (Nat.le_refl _)
 have HO2 : Hid (Own w5 W.heap.size v2 l2) := H2.out.1.own
 have HW2 : Hid (Wr [] (encV p) l2) := H2.out.2
 obtain ⟨ax, c, rfl, _, _, hlc, hcm⟩ := HO2.out.byt
 clear H2 HX5 HB5
 have hup : l2.length <= 12000000 := by have := HW2.out.up; simp only [List.length_nil] at this; omega
 by_cases hl : 65536 < l2.length
 . have hl2 : 65536 < (encV p).length := by have := HW2.out.up; simp only [List.length_nil] at this; omega
   obtain ⟨e1, e2⟩ := HL.out (by trivial) hl2
   subst e1 e2
   have hlb : decide ((65536 : Int) < (l2.length : Int)) = true := by simp; omega
   clear hl2
   go_wp2
   go_ret2
   exact ⟨_, rfl, World.ownsRow_nil _ _ _ _, HB6.out⟩
 . have e : l2 = encV p := by
    rcases HW2.out.out with h | h
    . simpa using h
    . exact absurd h hl
   obtain ⟨e1, e2⟩ := HY.out (by trivial) (by rw [<- e]; exact hl)
   subst e1
   have HO3 : Hid (Own w5 W.heap.size (.slice ax l2.length c) BB) := by rw [e2, <- e]; exact HO2.out
   have hlb : decide ((65536 : Int) < (l2.length : Int)) = false := by simp; omega
   clear e e2 HL HY
   go_wp2
   go_ret2
   exact ⟨_, rfl, HO3.out, HB6.out⟩
end Go.Proofs.YtpfiejmhnkcjbaaGreatDoor
namespace Go.Proofs.YtpfiejmhnkcjbaaGreatDoor
set_option maxHeartbeats 2000000
set_option maxRecDepth 8000
open Go.RowKit Math
set_option linter.unusedVariables false
set_option linter.unusedSimpArgs false
theorem sh_step (p : Vt) (hw : WfV p) (hc : chk0V p = 0) (ih : ∀ q ∈ p.2.list, ShC q) : ShC p := by
 obtain ⟨ho, hck⟩ := own_of0 hc
 have fn := own_fine ho
 obtain ⟨hk, a1, a2, a3, a4, a5⟩ := form9 fn.1
 obtain ⟨⟨k, n, s, t, ns⟩, f⟩ := p
 simp only at hk a1 a2 a3 a4 a5
 intro na nc ka kc w0 W hv hb hl
 rcases hk with rfl | rfl | rfl | rfl | rfl | rfl | rfl | rfl | rfl
 . exact sh1 n s t ns f na nc ka kc W
 . exact sh2 n s t ns f na nc ka kc W
 . obtain ⟨n1, n2, n3⟩ := num9 hw.1 ho (.inl rfl)
   have hs : s = 0 := a2 (by decide)
   subst hs
   exact sh3 n 0 t ns f ⟨n1, n2, rfl, a3 (by decide) (by decide), a4 (by decide)⟩ (nil9 (a5 (by decide) (by decide))) (own3 ho (.inl rfl)) na nc ka kc W
 . obtain ⟨n1, n2, n3⟩ := num9 hw.1 ho (.inr rfl)
   have hs : s ≠ 0 := fun e => by have := n3.1 e; simp at this
   exact sh4 n s t ns f ⟨n1, n2, (by unfold D6.kd; rw [if_neg (by simp only at n2 ⊢; omega)]), a3 (by decide) (by decide), a4 (by decide)⟩ (nil9 (a5 (by decide) (by decide))) (own3 ho (.inr rfl)) na nc ka kc W
 . have hn : 0 <= n /\ n <= 9007199254740992 := by
    have := fn.1
    unfold formed at this
    simp at this
    omega
   exact sh5 n s t ns f hn.1 hn.2 na nc ka kc W
 . exact sh6 n s t ns f (by have := fn.t; simp only at this; omega) na nc ka kc W
 . exact sh7 n s t ns f (by have := fn.t; simp only at this; omega) na nc ka kc W
 . have e : prV (⟨8, n, s, t, ns⟩, f) = 91 :: (prF f false ns true ++ [93]) := rfl
   rw [e] at hl ⊢
   exact sh8 (⟨8, n, s, t, ns⟩, f) fn.c ih na nc ka kc w0 W hv hb (by simpa using hl)
 . have hnm := names_len (fn.nm rfl)
   have e : prV (⟨9, n, s, t, ns⟩, f) = 123 :: (prF f true ns true ++ [125]) := rfl
   rw [e] at hl ⊢
   exact sh9 (⟨9, n, s, t, ns⟩, f) fn.c hnm.1 hnm.2 ih na nc ka kc w0 W hv hb (by simpa using hl)
theorem sh_any : ∀ (N : Nat) (p : Vt), wt p <= N -> WfV p -> chk0V p = 0 -> ShC p := by
 intro N
 induction N with
 | zero => intro p h; simp [wt] at h
 | succ N ih =>
   intro p hN hw hc
   exact sh_step p hw hc fun q hq => ih q (by have := wt_kid hq; omega) (hw.kid hq) (chk0_mem (own_of0 hc).2 hq)
theorem rprint_any (p : Vt) (hw : WfV p) (hws : ws p <= 100000) (na : Option Addr) (nc : Nat) (ka : Option Addr) (kc : Nat) (W : World) (hv : Vl W p na nc ka kc) :
 Calls Tryz.prog 61 #[.agg #[.int .i64 p.1.k, .int .i64 p.1.n, .int .i64 p.1.s, .string p.1.t, .slice na p.1.ns.length nc, .slice ka p.2.list.length kc]] W fun e w' => e = .returned (.tuple #[.string (prT p), .int .i64 (encE p)]) /\ Below W.heap.size W w' := by
 obtain ⟨W1, HW1⟩ : ∃ W1, Hid (W.alloc (.cells #[.int .i64 p.1.k, .int .i64 p.1.n, .int .i64 p.1.s, .string p.1.t, .slice na p.1.ns.length nc, .slice ka p.2.list.length kc] 41) = W1) := ⟨_, rfl⟩
 have HB1 : Hid (Below W.heap.size W W1) := by rw [<- HW1.out]; exact (Below.refl _ _).alloc (Nat.le_refl _) _
 have HX1 : Hid (Blk W1 W.heap.size 41 [.int .i64 p.1.k, .int .i64 p.1.n, .int .i64 p.1.s, .string p.1.t, .slice na p.1.ns.length nc, .slice ka p.2.list.length kc]) := by rw [<- HW1.out]; exact blk_new W 41 [.int .i64 p.1.k, .int .i64 p.1.n, .int .i64 p.1.s, .string p.1.t, .slice na p.1.ns.length nc, .slice ka p.2.list.length kc]
 have c0 : W1.cell? ⟨W.heap.size, 0, none⟩ = some (.int .i64 p.1.k) := HX1.out.cell 0
 have c1 : W1.cell? ⟨W.heap.size, 1, none⟩ = some (.int .i64 p.1.n) := HX1.out.cell 1
 have c2 : W1.cell? ⟨W.heap.size, 2, none⟩ = some (.int .i64 p.1.s) := HX1.out.cell 2
 have c3 : W1.cell? ⟨W.heap.size, 3, none⟩ = some (.string p.1.t) := HX1.out.cell 3
 have c4 : W1.cell? ⟨W.heap.size, 4, none⟩ = some (.slice na p.1.ns.length nc) := HX1.out.cell 4
 have c5 : W1.cell? ⟨W.heap.size, 5, none⟩ = some (.slice ka p.2.list.length kc) := HX1.out.cell 5
 have HV : Hid (Vl W p na nc ka kc) := hv
 have KE := rencode_any p hw hws na nc ka kc W1 (hv.below HB1.out)
 have HY : Hid (encE p = 0 -> ∀ w, Below W1.heap.size W1 w -> Calls Tryz.prog 91 #[.agg #[.int .i64 p.1.k, .int .i64 p.1.n, .int .i64 p.1.s, .string p.1.t, .slice na p.1.ns.length nc, .slice ka p.2.list.length kc]] w fun e w' => e = .returned (.string (prT p)) /\ Below w.heap.size w w') := fun h w g => by
  have hc := encE_chk0 h
  have hl := prV_len p hw hc
  have K := sh_any _ p (Nat.le_refl _) hw hc na nc ka kc W w HV.out (HB1.out.trans (g.mono HB1.out.size)) (by omega)
  have e : prT p = ofB (prV p) := by rw [<- prT_yes hw h, ofB_bts]
  rw [e]
  exact K
 have HN : Hid (encE p ≠ 0 -> prT p = ⟨#[]⟩) := fun h => prT_no h
 generalize encE p = E at *
 generalize prT p = S at *
 clear hv
 go_enter Tryz.func61, Tryz.ntmps61
 go_wp2_with fail
 generalize hWW : World.alloc W _ = W9
 obtain rfl : W1 = W9 := by rw [<- hWW, <- HW1.out] <;> rfl
 clear hWW HW1
 refine KE.mono ?_
 rintro e w2 ⟨v2, rfl, H2⟩
 have HB2 : Hid (Below W1.heap.size W1 w2) := H2.out.2
 clear KE H2 c0 c1 c2 c3 c4 c5
 by_cases hE : E = 0
 case neg =>
  obtain rfl : S = ⟨#[]⟩ := HN.out hE
  have hb : (E != 0) = true := by simpa using hE
  have HF : Hid (Below W.heap.size W w2) := HB1.out.trans (HB2.out.mono HB1.out.size)
  clear hE HY HN HX1
  go_wp2
  go_ret2
  exact ⟨rfl, HF.out⟩
 subst hE
 have KS := HY.out rfl w2 HB2.out
 have HX2 : Hid (Blk w2 W.heap.size 41 (six p.1 na nc ka p.2.list.length kc)) := HX1.out.below HB2.out HX1.out.lt
 have c0 : w2.cell? ⟨W.heap.size, 0, none⟩ = some (.int .i64 p.1.k) := HX2.out.cell 0
 have c1 : w2.cell? ⟨W.heap.size, 1, none⟩ = some (.int .i64 p.1.n) := HX2.out.cell 1
 have c2 : w2.cell? ⟨W.heap.size, 2, none⟩ = some (.int .i64 p.1.s) := HX2.out.cell 2
 have c3 : w2.cell? ⟨W.heap.size, 3, none⟩ = some (.string p.1.t) := HX2.out.cell 3
 have c4 : w2.cell? ⟨W.heap.size, 4, none⟩ = some (.slice na p.1.ns.length nc) := HX2.out.cell 4
 have c5 : w2.cell? ⟨W.heap.size, 5, none⟩ = some (.slice ka p.2.list.length kc) := HX2.out.cell 5
 clear HY HN HX1
 go_wp2_with fail
 refine KS.mono ?_
 rintro e w3 ⟨rfl, b3⟩
 have HF : Hid (Below W.heap.size W w3) := (HB1.out.trans (HB2.out.mono HB1.out.size)).trans (b3.mono (by have := HB2.out.size; have := HB1.out.size; omega))
 clear KS b3 c0 c1 c2 c3 c4 c5 HX2
 go_wp2
 go_ret2
 exact ⟨rfl, HF.out⟩
end Go.Proofs.YtpfiejmhnkcjbaaGreatDoor
namespace Go.Proofs.YtpfiejmhnkcjbaaGreatDoor
set_option maxHeartbeats 4000000
set_option maxRecDepth 8000
open Go.RowKit Math
set_option linter.unusedVariables false
set_option linter.unusedSimpArgs false
structure Tr9 (W w' : World) (s : ByteArray) (p : Vt) (na : Option Addr) (nc : Nat) (ka : Option Addr) (kc : Nat) (E : Int) : Prop where
 bl : Below W.heap.size W w'
 vl : Vl w' p na nc ka kc
 wf : WfV p
 wz : ws p <= 600000
 ok : (E = 0 /\ encE p = 0 /\ prV p = bts s) ∨ (E = 3 /\ p = lf 0 0 0 em /\ ∀ y, WfV y -> encE y = 0 -> prV y ≠ bts s)
theorem rtparse39 (s : ByteArray) (hs : s.size <= 100000) (T : List Nat) (hT : bts s = 39 :: T) (W : World) :
 Calls Tryz.prog 43 #[.string s] W fun e w' => ∃ (p : Vt) (na : Option Addr) (nc : Nat) (ka : Option Addr) (kc : Nat) (E : Int), e = .returned (.tuple #[.agg #[.int .i64 p.1.k, .int .i64 p.1.n, .int .i64 p.1.s, .string p.1.t, .slice na p.1.ns.length nc, .slice ka p.2.list.length kc], .int .i64 E]) /\ Hid (Tr9 W w' s p na nc ka kc E) := by
 go_enter Tryz.func43, Tryz.ntmps43
 go_wp2_with (refine al_zero rfl 41 rfl zer z25 ?_)
 intro g2 w1 hg2 bz1 gr1
 have HZ1 : Hid (Blk w1 g2 41 zer) := bz1
 have HB1 : Hid (Below W.heap.size W w1) := (Below.refl _ _).grown gr1 (Nat.le_refl _) (fun k e => by cases e)
 have hg2l : g2 < w1.heap.size := bz1.lt
 clear bz1 gr1
 obtain ⟨w2, HW2⟩ : ∃ w2, Hid (w1.alloc (.cells #[.string s, .bool false] 82) = w2) := ⟨_, rfl⟩
 have HR2 : Hid (Blk w2 w1.heap.size 82 [.string s, .bool false]) := by rw [<- HW2.out]; exact blk_new w1 82 [.string s, .bool false]
 have HB2 : Hid (Below w1.heap.size w1 w2) := by rw [<- HW2.out]; exact (Below.refl _ _).alloc (Nat.le_refl _) _
 have K := rv_text 1 w1.heap.size s w2 (by omega) HR2.out (by omega) T hT
 go_wp2_with fail
 generalize hWW : World.alloc w1 _ = W9
 obtain rfl : w2 = W9 := by rw [<- hWW, <- HW2.out]
 clear hWW HW2
 refine K.mono ?_
 rintro e w3 ⟨p, na, nc, ka, kc, s3, b3, rfl, H3⟩
 have hz12 : w1.heap.size < w2.heap.size := HR2.out.lt
 have hz23 : w2.heap.size <= w3.heap.size := H3.out.kq.gr.size
 have HZ3 : Hid (Blk w3 g2 41 zer) := (HZ1.out.below HB2.out hg2l).kept H3.out.kq.gr (by intro e; injection e with e; omega)
 have HB3 : Hid (Below W.heap.size W w3) := by
  have h := HB1.out.size
  have := HB1.out.trans (HB2.out.mono h)
  exact this.grown H3.out.kq.gr (by omega) (fun k e => by injection e with e; omega)
 have HR3 : Hid (Blk w3 w1.heap.size 82 [.string s3, .bool b3]) := H3.out.kq.blk
 have HVl : Hid (∃ Lp, VlL w3 p na nc ka kc Lp /\ ∀ x ∈ Lp, w2.heap.size <= x /\ x < w3.heap.size) := H3.out.vl
 have HWf : Hid (WfV p) := H3.out.wf
 have HVx : Hid (Vx 1 (bts s) false (bts s3) b3 p) := H3.out.vx
 clear K H3 HZ1 HB1 HB2 HR2
 go_wp2_with (refine al_zero rfl 41 rfl zer z25 ?_)
 intro g5 w4 hg5 bz4 gr4
 go_wp2_with (refine st_all rfl 41 (.tmp 5) (.tmp 12) rfl g5 41 zer (six p.1 na nc ka p.2.list.length kc) rfl rfl bz4 rfl s25 (six_one _ _ _ _ _ _) ?_)
 intro w5 b5 gr5
 have HB5 : Hid (Below w3.heap.size w3 w5) := below_new gr4 hg5 gr5
 have HV5 : Hid (Blk w5 g5 41 (six p.1 na nc ka p.2.list.length kc)) := b5
 have HR5 : Hid (Blk w5 w1.heap.size 82 [.string s3, .bool b3]) := HR3.out.below HB5.out HR3.out.lt
 have HZ5 : Hid (Blk w5 g2 41 zer) := HZ3.out.below HB5.out HZ3.out.lt
 have HBW5 : Hid (Below W.heap.size W w5) := HB3.out.trans (HB5.out.mono HB3.out.size)
 have HVl5 : Hid (∃ Lp, VlL w5 p na nc ka kc Lp /\ ∀ x ∈ Lp, w2.heap.size <= x /\ x < w5.heap.size) := by
  obtain ⟨Lp, a1, a2⟩ := HVl.out
  have := HB5.out.size
  exact ⟨Lp, a1.keep fun x hx => HB5.out.block x (a2 x hx).2, fun x hx => by have := a2 x hx; omega⟩
 have c1 : w5.cell? ⟨w1.heap.size, 1, none⟩ = some (.bool b3) := HR5.out.cell 1
 have c0 : w5.cell? ⟨w1.heap.size, 0, none⟩ = some (.string s3) := HR5.out.cell 0
 have hg25 : g2 ≠ g5 := by omega
 have HCo : Hid (∀ y, WfV y -> encE y = 0 -> prV y = bts s -> b3 = false /\ p = y /\ bts s3 = []) := fun y hw he hp => HVx.out.rt.co rfl y [] ⟨hw, encE_chk he, .inl rfl⟩ (by rw [hp, List.append_nil])
 clear bz4 gr4 b5 gr5 HB5 HR3 HZ3 HB3 HVl
 cases b3 with
 | true =>
   have HNo : Hid (∀ y, WfV y -> encE y = 0 -> prV y ≠ bts s) := fun y a b c => by have := (HCo.out y a b c).1; cases this
   clear HCo HVx
   go_wp2_with (refine st_all rfl 41 (.tmp 2) (.tmp 24) rfl g2 41 zer [.int .i64 0, .int .i64 0, .int .i64 0, .string ⟨#[]⟩, .slice none 0 0, .slice none 0 0] rfl rfl HZ5.out rfl s25 (D6.ones rfl) ?_)
   intro w9 b9 g9
   have HB9 : Hid (Blk w9 g2 41 [.int .i64 0, .int .i64 0, .int .i64 0, .string ⟨#[]⟩, .slice none 0 0, .slice none 0 0]) := b9
   have HF : Hid (Tr9 W w9 s (lf 0 0 0 em) none 0 none 0 3) := ⟨HBW5.out.grown g9 HBW5.out.size (fun k e => by injection e with e; omega), vl_zero _, wf_zero, by decide, .inr ⟨rfl, rfl, HNo.out⟩⟩
   clear b9 g9
   go_wp2
   refine bodyPost_ret (res_two rfl _ g2 41 _ _ rfl HB9.out Tryz.underlying41 rfl s25) rfl ?_
   exact ⟨lf 0 0 0 em, none, 0, none, 0, 3, rfl, HF.out⟩
 | false =>
   by_cases h0 : s3.size = 0
   case neg =>
    have he : s3.toList.isEmpty = false := by
     cases hh : s3.toList.isEmpty with
     | true => exact absurd ((empty9 s3).1 hh) h0
     | false => rfl
    have HNo : Hid (∀ y, WfV y -> encE y = 0 -> prV y ≠ bts s) := fun y a b c => h0 (by
     have := congrArg List.length (HCo.out y a b c).2.2
     rw [bts_len] at this
     exact this)
    clear HCo HVx h0
    go_wp2_with (refine st_all rfl 41 (.tmp 2) (.tmp 24) rfl g2 41 zer [.int .i64 0, .int .i64 0, .int .i64 0, .string ⟨#[]⟩, .slice none 0 0, .slice none 0 0] rfl rfl HZ5.out rfl s25 (D6.ones rfl) ?_)
    intro w9 b9 g9
    have HB9 : Hid (Blk w9 g2 41 [.int .i64 0, .int .i64 0, .int .i64 0, .string ⟨#[]⟩, .slice none 0 0, .slice none 0 0]) := b9
    have HF : Hid (Tr9 W w9 s (lf 0 0 0 em) none 0 none 0 3) := ⟨HBW5.out.grown g9 HBW5.out.size (fun k e => by injection e with e; omega), vl_zero _, wf_zero, by decide, .inr ⟨rfl, rfl, HNo.out⟩⟩
    clear b9 g9
    go_wp2
    refine bodyPost_ret (res_two rfl _ g2 41 _ _ rfl HB9.out Tryz.underlying41 rfl s25) rfl ?_
    exact ⟨lf 0 0 0 em, none, 0, none, 0, 3, rfl, HF.out⟩
   have he : s3.toList.isEmpty = true := (empty9 s3).2 h0
   have hws : ws p <= 100000 := by
    have := HVx.out.pr rfl
    rw [bts_len, bts_len] at this
    omega
   have KP := rprint_any p HWf.out hws na nc ka kc w5 (by obtain ⟨_, h, _⟩ := HVl5.out; exact h.vl)
   have HE0 : Hid (encE p = 0 -> bts (prT p) = prV p) := fun h => prT_yes HWf.out h
   have HCp : Hid (∀ y, WfV y -> encE y = 0 -> prV y = bts s -> p = y) := fun y a b c => (HCo.out y a b c).2.1
   obtain ⟨E, hE⟩ : ∃ E, encE p = E := ⟨_, rfl⟩
   obtain ⟨S, hS⟩ : ∃ S, prT p = S := ⟨_, rfl⟩
   have HEp : Hid (encE p = E /\ prT p = S) := ⟨hE, hS⟩
   rw [hE, hS] at KP
   have d0 : w5.cell? ⟨g5, 0, none⟩ = some (.int .i64 p.1.k) := HV5.out.cell 0
   have d1 : w5.cell? ⟨g5, 1, none⟩ = some (.int .i64 p.1.n) := HV5.out.cell 1
   have d2 : w5.cell? ⟨g5, 2, none⟩ = some (.int .i64 p.1.s) := HV5.out.cell 2
   have d3 : w5.cell? ⟨g5, 3, none⟩ = some (.string p.1.t) := HV5.out.cell 3
   have d4 : w5.cell? ⟨g5, 4, none⟩ = some (.slice na p.1.ns.length nc) := HV5.out.cell 4
   have d5 : w5.cell? ⟨g5, 5, none⟩ = some (.slice ka p.2.list.length kc) := HV5.out.cell 5
   clear hE hS HCo HVx h0
   go_wp2_with fail
   refine KP.mono ?_
   rintro e w6 ⟨rfl, b6⟩
   have HB6 : Hid (Below w5.heap.size w5 w6) := b6
   have HZ6 : Hid (Blk w6 g2 41 zer) := HZ5.out.below b6 HZ5.out.lt
   have HV6 : Hid (Blk w6 g5 41 (six p.1 na nc ka p.2.list.length kc)) := HV5.out.below b6 HV5.out.lt
   have HBW6 : Hid (Below W.heap.size W w6) := HBW5.out.trans (b6.mono HBW5.out.size)
   have HVl6 : Hid (∃ Lp, VlL w6 p na nc ka kc Lp /\ ∀ x ∈ Lp, w2.heap.size <= x /\ x < w6.heap.size) := by
    obtain ⟨Lp, a1, a2⟩ := HVl5.out
    have := HB6.out.size
    exact ⟨Lp, a1.keep fun x hx => HB6.out.block x (a2 x hx).2, fun x hx => by have := a2 x hx; omega⟩
   clear KP b6 d0 d1 d2 d3 d4 d5 c0 c1 HZ5 HV5 HBW5 HVl5 HR5 HB6
   by_cases hE : E = 0
   case neg =>
    have hEb : (E != 0) = true := by simpa using hE
    have HNo : Hid (∀ y, WfV y -> encE y = 0 -> prV y ≠ bts s) := fun y a b c => by
     have h := HCp.out y a b c
     subst h
     exact hE (by rw [<- HEp.out.1, b])
    clear HCp HE0 HEp hE
    go_wp2_with (refine st_all rfl 41 (.tmp 2) (.tmp 37) rfl g2 41 zer [.int .i64 0, .int .i64 0, .int .i64 0, .string ⟨#[]⟩, .slice none 0 0, .slice none 0 0] rfl rfl HZ6.out rfl s25 (D6.ones rfl) ?_)
    intro w9 b9 g9
    have HB9 : Hid (Blk w9 g2 41 [.int .i64 0, .int .i64 0, .int .i64 0, .string ⟨#[]⟩, .slice none 0 0, .slice none 0 0]) := b9
    have HF : Hid (Tr9 W w9 s (lf 0 0 0 em) none 0 none 0 3) := ⟨HBW6.out.grown g9 HBW6.out.size (fun k e => by injection e with e; omega), vl_zero _, wf_zero, by decide, .inr ⟨rfl, rfl, HNo.out⟩⟩
    clear b9 g9
    go_wp2
    refine bodyPost_ret (res_two rfl _ g2 41 _ _ rfl HB9.out Tryz.underlying41 rfl s25) rfl ?_
    exact ⟨lf 0 0 0 em, none, 0, none, 0, 3, rfl, HF.out⟩
   subst hE
   obtain ⟨tt, htt⟩ : ∃ tt, (S.toList == s.toList) = tt := ⟨_, rfl⟩
   cases tt with
   | false =>
     have HNo : Hid (∀ y, WfV y -> encE y = 0 -> prV y ≠ bts s) := fun y a b c => by
      have h := HCp.out y a b c
      subst h
      have h2 := HE0.out b
      rw [HEp.out.2, c] at h2
      have h3 : S = s := by rw [<- ofB_bts S, h2, ofB_bts]
      rw [h3] at htt
      simp at htt
     clear HCp HE0 HEp
     go_wp2_with (refine st_all rfl 41 (.tmp 2) (.tmp 37) rfl g2 41 zer [.int .i64 0, .int .i64 0, .int .i64 0, .string ⟨#[]⟩, .slice none 0 0, .slice none 0 0] rfl rfl HZ6.out rfl s25 (D6.ones rfl) ?_)
     intro w9 b9 g9
     have HB9 : Hid (Blk w9 g2 41 [.int .i64 0, .int .i64 0, .int .i64 0, .string ⟨#[]⟩, .slice none 0 0, .slice none 0 0]) := b9
     have HF : Hid (Tr9 W w9 s (lf 0 0 0 em) none 0 none 0 3) := ⟨HBW6.out.grown g9 HBW6.out.size (fun k e => by injection e with e; omega), vl_zero _, wf_zero, by decide, .inr ⟨rfl, rfl, HNo.out⟩⟩
     clear b9 g9
     go_wp2
     refine bodyPost_ret (res_two rfl _ g2 41 _ _ rfl HB9.out Tryz.underlying41 rfl s25) rfl ?_
     exact ⟨lf 0 0 0 em, none, 0, none, 0, 3, rfl, HF.out⟩
   | true =>
     have HOk : Hid (encE p = 0 /\ prV p = bts s) := by
      have h1 := HEp.out.1
      refine ⟨h1, ?_⟩
      have h2 := HE0.out h1
      rw [HEp.out.2] at h2
      have h3 : S = s := bytes_eq (by simpa using htt)
      rw [<- h2, h3]
     clear HCp HE0 HEp
     go_wp2_with (first
      | refine D6.ld_all rfl 41 (.tmp 5) rfl g5 41 _ _ rfl HV6.out Tryz.underlying41 rfl s25 ?_
      | refine st_all rfl 41 (.tmp 2) (.tmp 38) rfl g2 41 zer (six p.1 na nc ka p.2.list.length kc) rfl rfl HZ6.out rfl s25 (six_one _ _ _ _ _ _) ?_)
     intro w9 b9 g9
     have HB9 : Hid (Blk w9 g2 41 (six p.1 na nc ka p.2.list.length kc)) := b9
     have HF : Hid (Tr9 W w9 s p na nc ka kc 0) := by
      refine ⟨HBW6.out.grown g9 HBW6.out.size (fun k e => by injection e with e; omega), ?_, HWf.out, by omega, .inl ⟨rfl, HOk.out⟩⟩
      obtain ⟨Lp, a1, a2⟩ := HVl6.out
      exact (a1.keep fun x hx => g9.block x (a2 x hx).2 (by have := a2 x hx; intro c; injection c with c; omega)).vl
     clear b9 g9 HV6 HZ6 HBW6 HVl6 HOk HWf
     go_wp2
     refine bodyPost_ret (res_two rfl _ g2 41 _ _ rfl HB9.out Tryz.underlying41 rfl s25) rfl ?_
     exact ⟨p, na, nc, ka, kc, 0, rfl, HF.out⟩
end Go.Proofs.YtpfiejmhnkcjbaaGreatDoor
