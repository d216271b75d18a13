/-
   ·  · 
-/
import Derived.Test.YtobfdcdobhhagaaGreatDoorAG14x
import Derived.Test.YtobfdcdobhhagaaGreatDoorAVc
import Derived.Test.YtobfdcdobhhagaaGreatDoorAG25x
import Derived.Test.YtobfdcdobhhagaaGreatDoorAG45x
namespace Go.Proofs.YtobfdcdobhhagaaGreatDoor
set_option maxHeartbeats 4000000
set_option maxRecDepth 8000
open Go.RowKit
set_option linter.unusedVariables false
def ptH (h : Hd) : Nat := 1 + h.t.size
def Fo.pt : Fo -> Nat
 | .nil => 0
 | .cons h k r => ptH h + k.pt + r.pt
def pt (p : Vt) : Nat := ptH p.1 + p.2.pt
theorem pt_step {f : Fo} {k : Nat} {q : Vt} (h : f.list[k]? = some q) : (f.drop k).pt = pt q + (f.drop (k + 1)).pt := by
 rw [Fo.drop_at f k q h]; rfl
theorem gtp_cast (m : Nat) : Ending.returned (.bool (decide ((65536 : Int) < (m : Int)))) = .returned (.bool (decide (65536 < m))) := by
 have : ((65536 : Int) < (m : Int)) ↔ 65536 < m := by omega
 simp only [this]
structure Pg (W W' : World) (g m m' s : Nat) : Prop where
 gr : W.grownBy W' (some g)
 blk : Blk W' g 3 [.int .i64 (m' : Int)]
 max : m' <= 1000000000000000
 ge : m' <= m + s
def PIh (p : Vt) : Prop := ∀ q : Vt, wt q < wt p -> WfV q -> ∀ (na : Option Addr) (nc : Nat) (ka : Option Addr) (kc : Nat) (g m : Nat) (w0 W : World), Vl w0 q na nc ka kc -> Below w0.heap.size w0 W -> w0.heap.size <= g -> Blk W g 3 [.int .i64 (m : Int)] -> m <= 65536 ->
 Calls Tryz.prog 61 #[.agg #[.int .i64 q.1.k, .int .i64 q.1.n, .int .i64 q.1.s, .string q.1.t, .slice na q.1.ns.length nc, .slice ka q.2.list.length kc], .pointer (some ⟨g, 0, none⟩)] W fun e W' => ∃ m', e = .returned (.bool (decide (65536 < m'))) /\ Hid (Pg W W' g m m' (pt q))
theorem parts_step (p : Vt) (ih : PIh p) (hwf : WfV p) (na : Option Addr) (nc : Nat) (ka : Option Addr) (kc : Nat) (g m : Nat) (w0 W : World) (hv : Vl w0 p na nc ka kc) (hb : Below w0.heap.size w0 W) (hg : w0.heap.size <= g) (hm : Blk W g 3 [.int .i64 (m : Int)]) (hm2 : m <= 65536) :
 Calls Tryz.prog 61 #[.agg #[.int .i64 p.1.k, .int .i64 p.1.n, .int .i64 p.1.s, .string p.1.t, .slice na p.1.ns.length nc, .slice ka p.2.list.length kc], .pointer (some ⟨g, 0, none⟩)] W fun e W' => ∃ m', e = .returned (.bool (decide (65536 < m'))) /\ Hid (Pg W W' g m m' (pt p)) := by
 have hkl := hwf.2.1
 have htl := hwf.1.t1
 have hnl := hwf.1.c1
 obtain ⟨W1, HW1⟩ : ∃ W1, Hid (W.alloc (.cells #[.int .i64 p.1.k, .int .i64 p.1.n, .int .i64 p.1.s, .string p.1.t, .slice na p.1.ns.length nc, .slice ka p.2.list.length kc] 38) = W1) := ⟨_, rfl⟩
 have bx : Blk W1 W.heap.size 38 (six p.1 na nc ka p.2.list.length kc) := by rw [<- HW1.out]; exact blk_new W 38 _
 have bm : Blk W1 g 3 [.int .i64 (m : Int)] := by rw [<- HW1.out]; exact hm.alloc _
 have g1 : W.grownBy W1 none := by rw [<- HW1.out]; exact World.grownBy_alloc W _ none
 have hne : g ≠ W.heap.size := Nat.ne_of_lt hm.lt
 have c0 : W1.cell? ⟨g, 0, none⟩ = some (.int .i64 (m : Int)) := bm.cell 0
 have c3 : W1.cell? ⟨W.heap.size, 3, none⟩ = some (.string p.1.t) := bx.cell 3
 have c4 : W1.cell? ⟨W.heap.size, 4, none⟩ = some (.slice na p.1.ns.length nc) := bx.cell 4
 have fr : W1.frozen? ⟨g, 0, none⟩ = false := bm.frozen 0
 have HS : Hid (pt p = ptH p.1 + p.2.pt) := rfl
 have HSh : Hid (ptH p.1 = 1 + p.1.t.size) := rfl
 have HI : Hid (PIh p) := ih
 have HW : Hid (WfV p) := hwf
 have HV : Hid (Vl w0 p na nc ka kc) := hv
 have HB : Hid (Below w0.heap.size w0 W) := hb
 have HBx : Hid (Blk W1 W.heap.size 38 (six p.1 na nc ka p.2.list.length kc)) := bx
 have HBm : Hid (Blk W1 g 3 [.int .i64 (m : Int)]) := bm
 have HG1 : Hid (W.grownBy W1 none) := g1
 generalize pt p = WS at *
 clear ih hwf hv hb bx bm g1 hm
 go_enter Tryz.func61, Tryz.ntmps61
 go_wp2
 generalize hWW : World.alloc W _ = W2
 obtain rfl : W1 = W2 := by rw [<- hWW, <- HW1.out]
 clear hWW HW1
 obtain ⟨m1, HM1⟩ : ∃ m1 : Nat, Hid (m1 = m + 1 + p.1.t.size) := ⟨_, rfl⟩
 have hm1 : m1 <= 1000000000000000 := by rw [HM1.out]; omega
 have HX : Hid ((m : Int) + 1 + (p.1.t.size : Int) = (m1 : Int)) := by
  show _ = _
  rw [HM1.out]
  omega
 go_region
 all_goals go_wp2
 rw [HX.out]
 obtain ⟨W2, HW2⟩ : ∃ W2, Hid ((W1.setCell ⟨g, 0, none⟩ (.int .i64 (m1 : Int))).drew = W2) := ⟨_, rfl⟩
 rw [HW2.out]
 have HG2 : Hid (W1.grownBy W2 (some g)) := by
  rw [<- HW2.out]
  have h := grown_setCell W1 ⟨g, 0, none⟩ (.int .i64 (m1 : Int))
  exact ⟨h.os, h.tape, h.output, h.size, h.block⟩
 have HB2 : Hid (Blk W2 g 3 [.int .i64 (m1 : Int)]) := by
  rw [<- HW2.out]
  exact HBm.out.set 0 (.int .i64 (m1 : Int))
 have HX2 : Hid (Blk W2 W.heap.size 38 (six p.1 na nc ka p.2.list.length kc)) := HBx.out.kept HG2.out (fun e => hne (Option.some.inj e).symm)
 have HBw : Hid (Below w0.heap.size w0 W2) := (HB.out.grown HG1.out HB.out.size (fun k e => by cases e)).grown HG2.out (Nat.le_trans HB.out.size HG1.out.size) (fun k e => by cases e; exact hg)
 have HGW : Hid (W.grownBy W2 (some g)) := by
  have h1 := HG1.out
  have h2 := HG2.out
  exact ⟨h2.os.trans h1.os, h2.tape.trans h1.tape, h2.output.trans h1.output, Nat.le_trans h1.size h2.size, fun k hk hne => (h2.block k (Nat.lt_of_lt_of_le hk h1.size) hne).trans (h1.block k hk (by simp))⟩
 clear HW2 HX c0 c3 c4 fr HBx HBm HG1 HG2
 go_loopw [5] (fun i wr => ∃ k m' : Nat, k <= p.2.list.length /\ i = .int .i64 (k : Int) /\ m' <= 1000000000000000 /\ Hid (Blk wr g 3 [.int .i64 (m' : Int)]) /\ Hid (W2.grownBy wr (some g)) /\ Hid (m' + (p.2.drop k).pt <= m1 + p.2.pt)) (fun i _ => p.2.list.length - (intOf i).toNat)
 case atStart => exact ⟨0, m1, by omega, rfl, hm1, HB2.out, World.grownBy.refl _ _, by show _ <= _; simp [Fo.drop]⟩
 case round =>
  obtain ⟨k, m', hk0, rfl, hmm, HBk, HGk, HMk⟩ := hrel
  have cg : wr.cell? ⟨g, 0, none⟩ = some (.int .i64 (m' : Int)) := HBk.out.cell 0
  have HXk : Hid (Blk wr W.heap.size 38 (six p.1 na nc ka p.2.list.length kc)) := HX2.out.kept HGk.out (fun e => hne (Option.some.inj e).symm)
  have c5 : wr.cell? ⟨W.heap.size, 5, none⟩ = some (.slice ka p.2.list.length kc) := HXk.out.cell 5
  have HGr : Hid (W.grownBy wr (some g)) := by
   have h1 := HGW.out
   have h2 := HGk.out
   exact ⟨h2.os.trans h1.os, h2.tape.trans h1.tape, h2.output.trans h1.output, Nat.le_trans h1.size h2.size, fun k hk hne => (h2.block k (Nat.lt_of_lt_of_le hk h1.size) hne).trans (h1.block k hk hne)⟩
  by_cases hlt : k < p.2.list.length /\ m' <= 65536
  case neg =>
   have hfin : m' <= m + WS := by
    have h1 := HMk.out
    have h2 := HS.out
    have h3 := HSh.out
    have h4 := HM1.out
    omega
   have HF : Hid (m' <= m + WS) := hfin
   clear hfin HMk
   by_cases h1 : k < p.2.list.length
   . have h2 : ¬ m' <= 65536 := fun e => hlt ⟨h1, e⟩
     have h3 : decide ((m' : Int) <= 65536) = false := by simp; omega
     go_wp2
     go_ret
     exact ⟨m', by first | exact gtp_cast m' | rfl | exact gtp_yes m' (by omega), ⟨HGr.out, HBk.out, hmm, HF.out⟩⟩
   . go_wp2
     go_ret
     exact ⟨m', by first | exact gtp_cast m' | rfl | exact gtp_yes m' (by omega), ⟨HGr.out, HBk.out, hmm, HF.out⟩⟩
  obtain ⟨hlt, hle⟩ := hlt
  have h3 : decide ((m' : Int) <= 65536) = true := by simp; omega
  have HBr : Hid (Below w0.heap.size w0 wr) := HBw.out.grown HGk.out HBw.out.size (fun k e => by cases e; exact hg)
  obtain ⟨q, b, o, na', nc', ka', kc', hq, rfl, hnd, hvl⟩ := HV.out.kid (Below.refl _ _) (k := k) hlt
  have HQ := HI.out q (wt_kid (List.mem_of_getElem? hq)) (HW.out.kid (List.mem_of_getElem? hq)) na' nc' ka' kc' g m' w0 wr hvl HBr.out hg HBk.out hle
  obtain ⟨d0, d1, d2, d3, d4, d5⟩ := hnd.below HBr.out
  have HWq : Hid ((p.2.drop k).pt = pt q + (p.2.drop (k + 1)).pt) := pt_step hq
  generalize pt q = WQ at *
  clear hnd hvl hq
  go_wp2_with fail
  refine HQ.mono ?_
  rintro e w3 ⟨m3, rfl, h3r⟩
  clear HQ
  go_wp2
  go_roundw
  case rel =>
   have h1 := HGk.out
   have h2 := h3r.out.gr
   refine ⟨k + 1, m3, by omega, by go_num, h3r.out.max, h3r.out.blk, ⟨h2.os.trans h1.os, h2.tape.trans h1.tape, h2.output.trans h1.output, Nat.le_trans h1.size h2.size, fun k hk hne => (h2.block k (Nat.lt_of_lt_of_le hk h1.size) hne).trans (h1.block k hk hne)⟩, ?_⟩
   show _ <= _
   have h5 := h3r.out.ge
   have h6 := HMk.out
   have h7 := HWq.out
   omega
  case measure => simp [intOf]; omega
theorem parts_any : ∀ (N : Nat) (q : Vt), wt q <= N -> WfV q -> ∀ (na : Option Addr) (nc : Nat) (ka : Option Addr) (kc : Nat) (g m : Nat) (w0 W : World), Vl w0 q na nc ka kc -> Below w0.heap.size w0 W -> w0.heap.size <= g -> Blk W g 3 [.int .i64 (m : Int)] -> m <= 65536 ->
 Calls Tryz.prog 61 #[.agg #[.int .i64 q.1.k, .int .i64 q.1.n, .int .i64 q.1.s, .string q.1.t, .slice na q.1.ns.length nc, .slice ka q.2.list.length kc], .pointer (some ⟨g, 0, none⟩)] W fun e W' => ∃ m', e = .returned (.bool (decide (65536 < m'))) /\ Hid (Pg W W' g m m' (pt q)) := by
 intro N
 induction N with
 | zero => intro p hp; exfalso; unfold wt at hp; omega
 | succ N ih =>
   intro p hp hwf na nc ka kc g m w0 W hv hb hg hm hm2
   exact parts_step p (fun q hq hwq na nc ka kc g m w0 W h1 h2 h3 h4 h5 => ih q (by omega) hwq na nc ka kc g m w0 W h1 h2 h3 h4 h5) hwf na nc ka kc g m w0 W hv hb hg hm hm2
end Go.Proofs.YtobfdcdobhhagaaGreatDoor
namespace Go.Proofs.YtobfdcdobhhagaaGreatDoor
set_option maxHeartbeats 1000000
set_option maxRecDepth 8000
open Go.RowKit Math
set_option linter.unusedVariables false
theorem only_t {h : Hd} {kl : Nat} {F : Int} (e : only h kl F = true) (hF : F ≠ 4) : h.t.size = 0 := by
 simp only [only, Bool.and_eq_true, Bool.or_eq_true, decide_eq_true_eq] at e
 rcases e.1.1.2 with h3 | h3
 . exact absurd h3 hF
 . rw [em_of h3]; rfl
theorem formed_t {h : Hd} {kl : Nat} (e : formed h kl = true) : h.k = 6 ∨ h.k = 7 ∨ h.t.size = 0 := by
 unfold formed at e
 split at e
 . exact .inr (.inr (only_t e (by decide)))
 split at e
 . rw [Bool.and_eq_true] at e; exact .inr (.inr (only_t e.1 (by decide)))
 split at e
 . exact .inr (.inr (only_t e (by decide)))
 split at e
 . simp only [Bool.and_eq_true] at e; exact .inr (.inr (only_t e.1.1.1 (by decide)))
 split at e
 . simp only [Bool.and_eq_true] at e; exact .inr (.inr (only_t e.1.1 (by decide)))
 split at e
 . next h6 => exact .inl h6
 split at e
 . next h7 => exact .inr (.inl h7)
 split at e
 . exact .inr (.inr (only_t e (by decide)))
 split at e
 . exact .inr (.inr (only_t e (by decide)))
 . cases e
theorem head_low {h : Hd} {kl : Nat} (ho : own h kl = 0) : ptH h <= (headB h kl).length := by
 have hf := (own_fine ho).1
 unfold ptH headB
 rw [List.length_cons]
 rcases formed_t hf with h6 | h7 | h0
 . have : bodyB h kl = txB h.t := by unfold bodyB; simp [h6]
   rw [this, txB, List.length_append, bts_len]; omega
 . have : bodyB h kl = txB h.t := by unfold bodyB; simp [h7]
   rw [this, txB, List.length_append, bts_len]; omega
 . omega
theorem low_enc : ∀ (f : Fo) (b : Bool) (ns : List ByteArray), chk0 f = 0 -> f.pt <= (enc f b ns).length
 | .nil, _, _, _ => by simp [enc, Fo.pt]
 | .cons h k r, b, ns, hc => by
   have c1 := chk0_mem (p := (h, k)) hc (by simp [Fo.list])
   have c2 : chk0 r = 0 := by
    have e : chk0 (.cons h k r) = if chk0V (h, k) ≠ 0 then chk0V (h, k) else chk0 r := rfl
    rw [e, if_neg (by simpa using c1)] at hc
    exact hc
   obtain ⟨a, b'⟩ := own_of0 c1
   have B1 : ptH h <= (headB h k.list.length).length := head_low a
   have B2 := low_enc k (decide (h.k = 9)) h.ns b'
   have B3 := low_enc r b ns.tail c2
   have e : enc (.cons h k r) b ns = ((if b then txB (ns.headD ⟨#[]⟩) else []) ++ (headB h k.list.length ++ enc k (decide (h.k = 9)) h.ns)) ++ enc r b ns.tail := rfl
   rw [e, List.length_append, List.length_append, List.length_append]
   simp only [Fo.pt]
   omega
theorem low_V (p : Vt) (hc : chk0V p = 0) : pt p <= (encV p).length := by
 have h := low_enc (.cons p.1 p.2 .nil) false [] (by rw [chk0_cons, if_neg (by simpa using hc)]; rfl)
 rw [enc_cons] at h
 simp only [Bool.false_eq_true, if_false, List.nil_append, enc, List.append_nil, Fo.pt] at h
 exact h
theorem rencode_any (p : Vt) (hw : WfV p) (hws : ws p <= 100000) (na : Option Addr) (nc : Nat) (ka : Option Addr) (kc : Nat) (W : World) (hv : Vl W p na nc ka kc) :
 Calls Tryz.prog 33 #[.agg #[.int .i64 p.1.k, .int .i64 p.1.n, .int .i64 p.1.s, .string p.1.t, .slice na p.1.ns.length nc, .slice ka p.2.list.length kc]] W fun e w' => ∃ v', e = .returned (.tuple #[v', .int .i64 (encE p)]) /\ Hid (Own w' W.heap.size v' (encB p) /\ Below W.heap.size W w') := by
 obtain ⟨W1, HW1⟩ : ∃ W1, Hid (W.alloc (.cells #[.int .i64 p.1.k, .int .i64 p.1.n, .int .i64 p.1.s, .string p.1.t, .slice na p.1.ns.length nc, .slice ka p.2.list.length kc] 38) = W1) := ⟨_, rfl⟩
 have HX : Hid (Blk W1 W.heap.size 38 (six p.1 na nc ka p.2.list.length kc)) := by rw [<- HW1.out]; exact blk_new W 38 (six p.1 na nc ka p.2.list.length kc)
 have HB1 : Hid (Below W.heap.size W W1) := by rw [<- HW1.out]; exact (Below.refl _ _).alloc (Nat.le_refl _) _
 have hz1 : W1.heap.size = W.heap.size + 1 := by have := HW1.out; subst this; simp
 have HV : Hid (Vl W p na nc ka kc) := hv
 have KC := rCheck_any p hw na nc ka kc W1 (hv.below HB1.out)
 have KA : Hid (chkV p 1 = 0 -> RbC p /\ (encV p).length <= 12000000 /\ pt p <= (encV p).length) := fun h => ⟨rb_any _ p (Nat.le_refl _) hw (chk1 h), (by have := bound_V p hw (chk1 h); omega), low_V p (chk1 h)⟩
 have HN : Hid (chkV p 1 ≠ 0 -> encE p = chkV p 1 /\ encB p = []) := encE_no
 have HL : Hid (chkV p 1 = 0 -> 65536 < (encV p).length -> encE p = 5 /\ encB p = []) := encE_long
 have HY : Hid (chkV p 1 = 0 -> ¬ 65536 < (encV p).length -> encE p = 0 /\ encB p = encV p) := encE_yes
 have HWf : Hid (WfV p) := hw
 generalize encE p = EE at *
 generalize encB p = BB at *
 generalize chkV p 1 = E at *
 clear hv hw
 go_enter Tryz.func33, Tryz.ntmps33
 go_wp2_with fail
 generalize hWW : World.alloc W _ = W9
 obtain rfl : W1 = W9 := by rw [<- hWW, <- HW1.out]
 clear hWW HW1
 refine KC.mono ?_
 clear KC
 rintro e w1 ⟨rfl, b1⟩
 have HB2 : Hid (Below W.heap.size W w1) := HB1.out.trans (b1.mono HB1.out.size)
 have HX2 : Hid (Blk w1 W.heap.size 38 (six p.1 na nc ka p.2.list.length kc)) := HX.out.below b1 HX.out.lt
 have hs1 := b1.size
 clear b1 HB1 HX
 by_cases hE : E = 0
 case neg =>
  obtain ⟨e1, e2⟩ := HN.out hE
  subst e1 e2
  have hEb : (EE != 0) = true := by simpa using hE
  go_wp2
  go_ret2
  exact ⟨_, rfl, World.ownsRow_nil _ _ _ _, HB2.out⟩
 subst hE
 obtain ⟨ka1, kl1, kp1⟩ := KA.out rfl
 clear KA HN
 obtain ⟨w3, HW3⟩ : ∃ w3, Hid (w1.alloc (.cells #[.int .i64 0] 3) = w3) := ⟨_, rfl⟩
 have hgW : W.heap.size < w1.heap.size := HX2.out.lt
 have HG3 : Hid (Blk w3 w1.heap.size 3 [.int .i64 ((0 : Nat) : Int)]) := by rw [<- HW3.out]; exact blk_new w1 3 [.int .i64 0]
 have HX4 : Hid (Blk w3 W.heap.size 38 (six p.1 na nc ka p.2.list.length kc)) := by rw [<- HW3.out]; exact HX2.out.alloc _
 have HB4 : Hid (Below W.heap.size W w3) := by rw [<- HW3.out]; exact HB2.out.alloc HB2.out.size _
 have c0 : w1.cell? ⟨W.heap.size, 0, none⟩ = some (.int .i64 p.1.k) := HX2.out.cell 0
 have c1 : w1.cell? ⟨W.heap.size, 1, none⟩ = some (.int .i64 p.1.n) := HX2.out.cell 1
 have c2 : w1.cell? ⟨W.heap.size, 2, none⟩ = some (.int .i64 p.1.s) := HX2.out.cell 2
 have c3 : w1.cell? ⟨W.heap.size, 3, none⟩ = some (.string p.1.t) := HX2.out.cell 3
 have c4 : w1.cell? ⟨W.heap.size, 4, none⟩ = some (.slice na p.1.ns.length nc) := HX2.out.cell 4
 have c5 : w1.cell? ⟨W.heap.size, 5, none⟩ = some (.slice ka p.2.list.length kc) := HX2.out.cell 5
 have KP := parts_any _ p (Nat.le_refl _) HWf.out na nc ka kc w1.heap.size 0 W w3 HV.out HB4.out (by omega) HG3.out (by omega)
 clear HB2 HX2
 go_wp2_with fail
 generalize hWW : World.alloc w1 _ = W9
 obtain rfl : w3 = W9 := by rw [<- hWW, <- HW3.out]
 clear hWW HW3
 refine KP.mono ?_
 clear KP c0 c1 c2 c3 c4 c5
 rintro e w4 ⟨m, rfl, H4⟩
 have HX5 : Hid (Blk w4 W.heap.size 38 (six p.1 na nc ka p.2.list.length kc)) := HX4.out.kept H4.out.gr (fun e => by injection e with e; omega)
 have HB5 : Hid (Below W.heap.size W w4) := HB4.out.grown H4.out.gr HB4.out.size (fun k e => by injection e with e; omega)
 have hm : m <= pt p := by have := H4.out.ge; omega
 clear H4 HX4 HB4 HG3
 by_cases hbig : 65536 < m
 . have hl2 : 65536 < (encV p).length := by omega
   obtain ⟨e1, e2⟩ := HL.out (by trivial) hl2
   subst e1 e2
   have hd : decide (65536 < m) = true := by simpa using hbig
   rw [hd]
   clear hl2 hm
   go_wp2
   go_ret2
   exact ⟨_, rfl, World.ownsRow_nil _ _ _ _, HB5.out⟩
 have hd : decide (65536 < m) = false := by simpa using hbig
 rw [hd]
 have c0 : w4.cell? ⟨W.heap.size, 0, none⟩ = some (.int .i64 p.1.k) := HX5.out.cell 0
 have c1 : w4.cell? ⟨W.heap.size, 1, none⟩ = some (.int .i64 p.1.n) := HX5.out.cell 1
 have c2 : w4.cell? ⟨W.heap.size, 2, none⟩ = some (.int .i64 p.1.s) := HX5.out.cell 2
 have c3 : w4.cell? ⟨W.heap.size, 3, none⟩ = some (.string p.1.t) := HX5.out.cell 3
 have c4 : w4.cell? ⟨W.heap.size, 4, none⟩ = some (.slice na p.1.ns.length nc) := HX5.out.cell 4
 have c5 : w4.cell? ⟨W.heap.size, 5, none⟩ = some (.slice ka p.2.list.length kc) := HX5.out.cell 5
 have KV := ka1 na nc ka kc (.slice none 0 0) [] W.heap.size W w4 HV.out HB5.out (Nat.le_refl _) HB5.out.size (World.ownsRow_nil _ _ _ _) (by simp only [List.length_nil]; omega)
 clear ka1 hm kp1
 go_wp2_with fail
 refine KV.mono ?_
 clear KV c0 c1 c2 c3 c4 c5
 rintro e w5 ⟨v2, l2, rfl, H2⟩
 have HB6 : Hid (Below W.heap.size W w5) := H2.out.1.below (show Own w4 W.heap.size (.slice none 0 0) [] from World.ownsRow_nil _ _ _ _) HB5.out HB5.out.size (Nat.le_refl _)
 have HO2 : Hid (Own w5 W.heap.size v2 l2) := H2.out.1.own
 have HW2 : Hid (Wr [] (encV p) l2) := H2.out.2
 obtain ⟨ax, c, rfl, _, _, hlc, hcm⟩ := HO2.out.byt
 clear H2 HX5 HB5
 have hup : l2.length <= 12000000 := by have := HW2.out.up; simp only [List.length_nil] at this; omega
 by_cases hl : 65536 < l2.length
 . have hl2 : 65536 < (encV p).length := by have := HW2.out.up; simp only [List.length_nil] at this; omega
   obtain ⟨e1, e2⟩ := HL.out (by trivial) hl2
   subst e1 e2
   have hlb : decide ((65536 : Int) < (l2.length : Int)) = true := by simp; omega
   clear hl2
   go_wp2
   go_ret2
   exact ⟨_, rfl, World.ownsRow_nil _ _ _ _, HB6.out⟩
 . have e : l2 = encV p := by
    rcases HW2.out.out with h | h
    . simpa using h
    . exact absurd h hl
   obtain ⟨e1, e2⟩ := HY.out (by trivial) (by rw [<- e]; exact hl)
   subst e1
   have HO3 : Hid (Own w5 W.heap.size (.slice ax l2.length c) BB) := by rw [e2, <- e]; exact HO2.out
   have hlb : decide ((65536 : Int) < (l2.length : Int)) = false := by simp; omega
   clear e e2 HL HY
   go_wp2
   go_ret2
   exact ⟨_, rfl, HO3.out, HB6.out⟩
end Go.Proofs.YtobfdcdobhhagaaGreatDoor
namespace Go.Proofs.YtobfdcdobhhagaaGreatDoor
set_option maxHeartbeats 2000000
set_option maxRecDepth 8000
open Go.RowKit Math
set_option linter.unusedVariables false
set_option linter.unusedSimpArgs false
theorem sh_step (p : Vt) (hw : WfV p) (hc : chk0V p = 0) (ih : ∀ q ∈ p.2.list, ShC q) : ShC p := by
 obtain ⟨ho, hck⟩ := own_of0 hc
 have fn := own_fine ho
 obtain ⟨hk, a1, a2, a3, a4, a5⟩ := form9 fn.1
 obtain ⟨⟨k, n, s, t, ns⟩, f⟩ := p
 simp only at hk a1 a2 a3 a4 a5
 intro na nc ka kc w0 W hv hb hl
 rcases hk with rfl | rfl | rfl | rfl | rfl | rfl | rfl | rfl | rfl
 . exact sh1 n s t ns f na nc ka kc W
 . exact sh2 n s t ns f na nc ka kc W
 . obtain ⟨n1, n2, n3⟩ := num9 hw.1 ho (.inl rfl)
   have hs : s = 0 := a2 (by decide)
   subst hs
   exact sh3 n 0 t ns f ⟨n1, n2, rfl, a3 (by decide) (by decide), a4 (by decide)⟩ (nil9 (a5 (by decide) (by decide))) (own3 ho (.inl rfl)) na nc ka kc W
 . obtain ⟨n1, n2, n3⟩ := num9 hw.1 ho (.inr rfl)
   have hs : s ≠ 0 := fun e => by have := n3.1 e; simp at this
   exact sh4 n s t ns f ⟨n1, n2, (by unfold D6.kd; rw [if_neg (by simp only at n2 ⊢; omega)]), a3 (by decide) (by decide), a4 (by decide)⟩ (nil9 (a5 (by decide) (by decide))) (own3 ho (.inr rfl)) na nc ka kc W
 . have hn : 0 <= n /\ n <= 9007199254740992 := by
    have := fn.1
    unfold formed at this
    simp at this
    omega
   exact sh5 n s t ns f hn.1 hn.2 na nc ka kc W
 . exact sh6 n s t ns f (by have := fn.t; simp only at this; omega) na nc ka kc W
 . exact sh7 n s t ns f (by have := fn.t; simp only at this; omega) na nc ka kc W
 . have e : prV (⟨8, n, s, t, ns⟩, f) = 91 :: (prF f false ns true ++ [93]) := rfl
   rw [e] at hl ⊢
   exact sh8 (⟨8, n, s, t, ns⟩, f) fn.c ih na nc ka kc w0 W hv hb (by simpa using hl)
 . have hnm := names_len (fn.nm rfl)
   have e : prV (⟨9, n, s, t, ns⟩, f) = 123 :: (prF f true ns true ++ [125]) := rfl
   rw [e] at hl ⊢
   exact sh9 (⟨9, n, s, t, ns⟩, f) fn.c hnm.1 hnm.2 ih na nc ka kc w0 W hv hb (by simpa using hl)
theorem sh_any : ∀ (N : Nat) (p : Vt), wt p <= N -> WfV p -> chk0V p = 0 -> ShC p := by
 intro N
 induction N with
 | zero => intro p h; simp [wt] at h
 | succ N ih =>
   intro p hN hw hc
   exact sh_step p hw hc fun q hq => ih q (by have := wt_kid hq; omega) (hw.kid hq) (chk0_mem (own_of0 hc).2 hq)
theorem rprint_any (p : Vt) (hw : WfV p) (hws : ws p <= 100000) (na : Option Addr) (nc : Nat) (ka : Option Addr) (kc : Nat) (W : World) (hv : Vl W p na nc ka kc) :
 Calls Tryz.prog 19 #[.agg #[.int .i64 p.1.k, .int .i64 p.1.n, .int .i64 p.1.s, .string p.1.t, .slice na p.1.ns.length nc, .slice ka p.2.list.length kc]] W fun e w' => e = .returned (.tuple #[.string (prT p), .int .i64 (encE p)]) /\ Below W.heap.size W w' := by
 obtain ⟨W1, HW1⟩ : ∃ W1, Hid (W.alloc (.cells #[.int .i64 p.1.k, .int .i64 p.1.n, .int .i64 p.1.s, .string p.1.t, .slice na p.1.ns.length nc, .slice ka p.2.list.length kc] 38) = W1) := ⟨_, rfl⟩
 have HB1 : Hid (Below W.heap.size W W1) := by rw [<- HW1.out]; exact (Below.refl _ _).alloc (Nat.le_refl _) _
 have HX1 : Hid (Blk W1 W.heap.size 38 [.int .i64 p.1.k, .int .i64 p.1.n, .int .i64 p.1.s, .string p.1.t, .slice na p.1.ns.length nc, .slice ka p.2.list.length kc]) := by rw [<- HW1.out]; exact blk_new W 38 [.int .i64 p.1.k, .int .i64 p.1.n, .int .i64 p.1.s, .string p.1.t, .slice na p.1.ns.length nc, .slice ka p.2.list.length kc]
 have c0 : W1.cell? ⟨W.heap.size, 0, none⟩ = some (.int .i64 p.1.k) := HX1.out.cell 0
 have c1 : W1.cell? ⟨W.heap.size, 1, none⟩ = some (.int .i64 p.1.n) := HX1.out.cell 1
 have c2 : W1.cell? ⟨W.heap.size, 2, none⟩ = some (.int .i64 p.1.s) := HX1.out.cell 2
 have c3 : W1.cell? ⟨W.heap.size, 3, none⟩ = some (.string p.1.t) := HX1.out.cell 3
 have c4 : W1.cell? ⟨W.heap.size, 4, none⟩ = some (.slice na p.1.ns.length nc) := HX1.out.cell 4
 have c5 : W1.cell? ⟨W.heap.size, 5, none⟩ = some (.slice ka p.2.list.length kc) := HX1.out.cell 5
 have HV : Hid (Vl W p na nc ka kc) := hv
 have KE := rencode_any p hw hws na nc ka kc W1 (hv.below HB1.out)
 have HY : Hid (encE p = 0 -> ∀ w, Below W1.heap.size W1 w -> Calls Tryz.prog 34 #[.agg #[.int .i64 p.1.k, .int .i64 p.1.n, .int .i64 p.1.s, .string p.1.t, .slice na p.1.ns.length nc, .slice ka p.2.list.length kc]] w fun e w' => e = .returned (.string (prT p)) /\ Below w.heap.size w w') := fun h w g => by
  have hc := encE_chk0 h
  have hl := prV_len p hw hc
  have K := sh_any _ p (Nat.le_refl _) hw hc na nc ka kc W w HV.out (HB1.out.trans (g.mono HB1.out.size)) (by omega)
  have e : prT p = ofB (prV p) := by rw [<- prT_yes hw h, ofB_bts]
  rw [e]
  exact K
 have HN : Hid (encE p ≠ 0 -> prT p = ⟨#[]⟩) := fun h => prT_no h
 generalize encE p = E at *
 generalize prT p = S at *
 clear hv
 go_enter Tryz.func19, Tryz.ntmps19
 go_wp2_with fail
 generalize hWW : World.alloc W _ = W9
 obtain rfl : W1 = W9 := by rw [<- hWW, <- HW1.out] <;> rfl
 clear hWW HW1
 refine KE.mono ?_
 rintro e w2 ⟨v2, rfl, H2⟩
 have HB2 : Hid (Below W1.heap.size W1 w2) := H2.out.2
 clear KE H2 c0 c1 c2 c3 c4 c5
 by_cases hE : E = 0
 case neg =>
  obtain rfl : S = ⟨#[]⟩ := HN.out hE
  have hb : (E != 0) = true := by simpa using hE
  have HF : Hid (Below W.heap.size W w2) := HB1.out.trans (HB2.out.mono HB1.out.size)
  clear hE HY HN HX1
  go_wp2
  go_ret2
  exact ⟨rfl, HF.out⟩
 subst hE
 have KS := HY.out rfl w2 HB2.out
 have HX2 : Hid (Blk w2 W.heap.size 38 (six p.1 na nc ka p.2.list.length kc)) := HX1.out.below HB2.out HX1.out.lt
 have c0 : w2.cell? ⟨W.heap.size, 0, none⟩ = some (.int .i64 p.1.k) := HX2.out.cell 0
 have c1 : w2.cell? ⟨W.heap.size, 1, none⟩ = some (.int .i64 p.1.n) := HX2.out.cell 1
 have c2 : w2.cell? ⟨W.heap.size, 2, none⟩ = some (.int .i64 p.1.s) := HX2.out.cell 2
 have c3 : w2.cell? ⟨W.heap.size, 3, none⟩ = some (.string p.1.t) := HX2.out.cell 3
 have c4 : w2.cell? ⟨W.heap.size, 4, none⟩ = some (.slice na p.1.ns.length nc) := HX2.out.cell 4
 have c5 : w2.cell? ⟨W.heap.size, 5, none⟩ = some (.slice ka p.2.list.length kc) := HX2.out.cell 5
 clear HY HN HX1
 go_wp2_with fail
 refine KS.mono ?_
 rintro e w3 ⟨rfl, b3⟩
 have HF : Hid (Below W.heap.size W w3) := (HB1.out.trans (HB2.out.mono HB1.out.size)).trans (b3.mono (by have := HB2.out.size; have := HB1.out.size; omega))
 clear KS b3 c0 c1 c2 c3 c4 c5 HX2
 go_wp2
 go_ret2
 exact ⟨rfl, HF.out⟩
end Go.Proofs.YtobfdcdobhhagaaGreatDoor
