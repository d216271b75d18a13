import Derived.Test.YtpfiejmhnkcjbaaGreatDoorHG30x
import Derived.Test.YtpfiejmhnkcjbaaGreatDoorHG7x
import Derived.Test.YtpfiejmhnkcjbaaGreatDoorHD6Ty
namespace Go.Proofs.YtpfiejmhnkcjbaaGreatDoor
set_option maxHeartbeats 4000000
set_option maxRecDepth 8000
open Go.RowKit Math
set_option linter.unusedVariables false
set_option linter.unusedSimpArgs false
structure Xb (b g : Nat) (wr : World) (v : Value) (t : TypeId) (vs : List Value) : Prop where
 blk : Blk wr g t vs
 nb : g ≠ b
 no : v.ownBlock ≠ some g
theorem Xb.step {b B g : Nat} {wr w' : World} {v v' : Value} {l' : List Nat} {t : TypeId} {vs : List Value} (h : Xb b g wr v t vs) (k : Bw b B wr w' v v' l') : Xb b g w' v' t vs := by
 refine ⟨k.blk h.blk h.nb h.no, h.nb, fun e => ?_⟩
 rcases k.ob g e with c | c
 . exact h.no c
 . have := h.blk.lt; omega
theorem Xb.below {b g : Nat} {wr w' : World} {v : Value} {t : TypeId} {vs : List Value} (h : Xb b g wr v t vs) (k : Below wr.heap.size wr w') : Xb b g w' v t vs := ⟨h.blk.below k h.blk.lt, h.nb, h.no⟩
theorem Xb.new {b B g : Nat} {wr w' : World} {v : Value} {l : List Nat} {t : TypeId} {vs : List Value} (h : Bs b B wr v l) (k : Blk w' g t vs) (hg : wr.heap.size <= g) : Xb b g w' v t vs :=
 ⟨k, by have := h.lt; omega, fun e => by have := (World.ownsRow.lt h.own _ e).2; omega⟩
def WvC (p : Vt) : Prop := ∀ (na : Option Addr) (nc : Nat) (ka : Option Addr) (kc b B : Nat) (v : Value) (l : List Nat) (w0 W : World), Vl w0 p na nc ka kc -> Below w0.heap.size w0 W -> w0.heap.size <= B -> D6.Ptab w0 -> Bs b B W v l -> l.length + (prV p).length <= 700000000 ->
 Calls Tryz.prog 111 #[.pointer (some ⟨b, 0, none⟩), .agg #[.int .i64 p.1.k, .int .i64 p.1.n, .int .i64 p.1.s, .string p.1.t, .slice na p.1.ns.length nc, .slice ka p.2.list.length kc]] W fun e w' => ∃ v', e = .returned (.tuple #[]) /\ Hid (Bw b B W w' v v' (l ++ prV p))
theorem wk8 (p : Vt) (hkl : p.2.list.length <= 200) (ih : ∀ q ∈ p.2.list, WvC q) (na : Option Addr) (nc : Nat) (ka : Option Addr) (kc b B : Nat) (v : Value) (l : List Nat) (w0 W : World) (hv : Vl w0 p na nc ka kc) (hb : Below w0.heap.size w0 W) (hB0 : w0.heap.size <= B) (ht : D6.Ptab w0) (h : Bs b B W v l) (hl : l.length + (prF p.2 false p.1.ns true).length + 2 <= 700000000) :
 Calls Tryz.prog 144 #[.pointer (some ⟨b, 0, none⟩), .agg #[.int .i64 8, .int .i64 p.1.n, .int .i64 p.1.s, .string p.1.t, .slice na p.1.ns.length nc, .slice ka p.2.list.length kc], .string ⟨#[91]⟩, .string ⟨#[93]⟩] W fun e w' => ∃ v', e = .returned (.tuple #[]) /\ Hid (Bw b B W w' v v' (l ++ (91 :: (prF p.2 false p.1.ns true ++ [93])))) := by
 obtain ⟨W1, HW1⟩ : ∃ W1, Hid (W.alloc (.cells #[.int .i64 8, .int .i64 p.1.n, .int .i64 p.1.s, .string p.1.t, .slice na p.1.ns.length nc, .slice ka p.2.list.length kc] 41) = W1) := ⟨_, rfl⟩
 have HB1 : Hid (Below W.heap.size W W1) := by rw [<- HW1.out]; exact (Below.refl _ _).alloc (Nat.le_refl _) _
 have HX1 : Hid (Xb b W.heap.size W1 v 41 [.int .i64 8, .int .i64 p.1.n, .int .i64 p.1.s, .string p.1.t, .slice na p.1.ns.length nc, .slice ka p.2.list.length kc]) := Xb.new h (by rw [<- HW1.out]; exact blk_new W 41 [.int .i64 8, .int .i64 p.1.n, .int .i64 p.1.s, .string p.1.t, .slice na p.1.ns.length nc, .slice ka p.2.list.length kc]) (Nat.le_refl _)
 have HS1 : Hid (Bs b B W1 v l) := h.below HB1.out
 have HS0 : Hid (Bs b B W v l) := h
 have HV : Hid (Vl w0 p na nc ka kc) := hv
 have HI : Hid (∀ q ∈ p.2.list, WvC q) := ih
 have HBw : Hid (Below w0.heap.size w0 W) := hb
 have HTb : Hid (D6.Ptab w0) := ht
 have HT : Hid (l.length + (prF p.2 false p.1.ns true).length + 2 <= 700000000) := hl
 have K0 := wrs9 ⟨#[91]⟩ HS1.out (by show l.length + 1 <= _; omega)
 clear h hv ih hb ht hl
 go_enter Tryz.func144, Tryz.ntmps144
 go_wp2_with fail
 generalize hWW : World.alloc W _ = W9
 obtain rfl : W1 = W9 := by rw [<- hWW, <- HW1.out]
 clear hWW HW1
 refine K0.mono ?_
 rintro e w2 ⟨v1, rfl, H1⟩
 have HX2 : Hid (Xb b W.heap.size w2 v1 41 [.int .i64 8, .int .i64 p.1.n, .int .i64 p.1.s, .string p.1.t, .slice na p.1.ns.length nc, .slice ka p.2.list.length kc]) := HX1.out.step H1.out
 have HA2 : Hid (Bw b B W w2 v v1 (l ++ (91 :: []))) := Bw.after HB1.out H1.out
 have HD0 : Hid ([] ++ prF (p.2.drop 0) false (p.1.ns.drop 0) (decide (0 = 0)) = prF p.2 false p.1.ns true) := by show _ = _; simp [Fo.drop]
 have c5 : w2.cell? ⟨W.heap.size, 5, none⟩ = some (.slice ka p.2.list.length kc) := HX2.out.blk.cell 5
 clear K0 H1 HX1 HS1 HB1
 go_wp2
 clear c5
 go_loopw [8, 9, 16] (fun _ _ i wr => ∃ (k : Nat) (v2 : Value) (D : List Nat), k <= p.2.list.length /\ i = .int .i64 (k : Int) /\ Hid (Bw b B W wr v v2 (l ++ (91 :: D)) /\ Xb b W.heap.size wr v2 41 [.int .i64 8, .int .i64 p.1.n, .int .i64 p.1.s, .string p.1.t, .slice na p.1.ns.length nc, .slice ka p.2.list.length kc] /\ D ++ prF (p.2.drop k) false (p.1.ns.drop k) (decide (k = 0)) = prF p.2 false p.1.ns true)) (fun _ _ i _ => p.2.list.length - (intOf i).toNat)
 case atStart => exact ⟨0, v1, [], by omega, rfl, HA2.out, HX2.out, HD0.out⟩
 case round =>
  clear HX2 HA2 HD0
  obtain ⟨k, v2, D, hk0, rfl, HK⟩ := hrel
  have HA : Hid (Bw b B W wr v v2 (l ++ (91 :: D))) := HK.out.1
  have HX : Hid (Xb b W.heap.size wr v2 41 [.int .i64 8, .int .i64 p.1.n, .int .i64 p.1.s, .string p.1.t, .slice na p.1.ns.length nc, .slice ka p.2.list.length kc]) := HK.out.2.1
  have HD : Hid (D ++ prF (p.2.drop k) false (p.1.ns.drop k) (decide (k = 0)) = prF p.2 false p.1.ns true) := HK.out.2.2
  clear HK
  by_cases hlt : k < p.2.list.length
  case neg =>
   have hD : D = prF p.2 false p.1.ns true := by
    have := HD.out
    rw [Fo.drop_end _ _ (by omega)] at this
    simpa [prF] using this
   subst hD
   have K1 := wrs9 ⟨#[93]⟩ HA.out.bs (by have := HT.out; simp only [List.length_append, List.length_cons]; show _ + 1 <= _; omega)
   go_wp2_with fail
   refine K1.mono ?_
   rintro e w3 ⟨v3, rfl, H3⟩
   have HF : Hid (Bw b B W w3 v v3 (l ++ (91 :: (prF p.2 false p.1.ns true ++ [93])))) := by
    have := HA.out.trans H3.out
    rw [List.append_assoc] at this
    exact this
   clear K1 H3 HA HX HD
   go_wp2
   go_end0
   exact ⟨v3, rfl, HF.out⟩
  have HBr : Hid (Below w0.heap.size w0 wr) := HA.out.down HS0.out HBw.out hB0
  obtain ⟨q, bq, oq, na', nc', ka', kc', hq, rfl, hnd, hvl⟩ := HV.out.kid (Below.refl _ _) (k := k) hlt
  have HQ : Hid (WvC q) := HI.out q (List.mem_of_getElem? hq)
  have HVq : Hid (Vl w0 q na' nc' ka' kc') := hvl
  have HP : Hid (prF (p.2.drop k) false (p.1.ns.drop k) (decide (k = 0)) = _) := prF_drop hq
  obtain ⟨d0, d1, d2, d3, d4, d5⟩ := hnd.below HBr.out
  clear hnd hvl hq
  go_wp2_with (refine al_zero rfl 41 rfl zer z25 ?_)
  intro g6 w6 hg6 Bz6 gr6
  go_wp2_with (refine st_all rfl 41 (.tmp 9) (.tmp 20) rfl g6 41 zer (six q.1 na' nc' ka' q.2.list.length kc') rfl rfl Bz6 rfl s25 (six_one _ _ _ _ _ _) ?_)
  intro w7 B7 gr7
  have G7 : Hid (Below wr.heap.size wr w7) := below_new gr6 hg6 gr7
  have HX7 : Hid (Xb b W.heap.size w7 v2 41 [.int .i64 8, .int .i64 p.1.n, .int .i64 p.1.s, .string p.1.t, .slice na p.1.ns.length nc, .slice (some ⟨bq, oq, none⟩) p.2.list.length kc]) := HX.out.below G7.out
  have HQ7 : Hid (Xb b g6 w7 v2 41 (six q.1 na' nc' ka' q.2.list.length kc')) := Xb.new HA.out.bs B7 hg6
  have HA7 : Hid (Bw b B W w7 v v2 (l ++ (91 :: D))) := HA.out.more G7.out
  clear Bz6 gr6 gr7 B7 d0 d1 d2 d3 d4 d5 HA HX G7 HBr hg6
  by_cases h0 : k = 0
  case pos =>
   have HPz : Hid (prF (p.2.drop k) false (p.1.ns.drop k) (decide (k = 0)) = [] ++ ((prV q ++ prF (p.2.drop (k + 1)) false (p.1.ns.drop (k + 1)) false))) := by
    show _ = _
    have := HP.out
    rw [decide_eq_true (show k = 0 from h0)] at this
    rw [decide_eq_true (show k = 0 from h0)]
    simpa using this
   have hln : l.length + 1 + D.length + 0 + (prV q).length + 1 <= 700000000 := by
    have h1 := HT.out
    have h2 := congrArg List.length HD.out
    have h3 := congrArg List.length HPz.out
    simp only [List.length_append, List.length_cons, List.length_nil] at h1 h2 h3
    omega
   have hgt : ¬ (0 : Int) < (k : Int) := by omega
   clear h0
   have cb0 : w7.cell? ⟨W.heap.size, 0, none⟩ = some (.int .i64 8) := HX7.out.blk.cell 0
   have Hb7 : Hid (Below w0.heap.size w0 w7) := HA7.out.down HS0.out HBw.out hB0
   have KV := HQ.out na' nc' ka' kc' b B v2 (l ++ (91 :: D)) w0 w7 HVq.out Hb7.out hB0 HTb.out HA7.out.bs (by simp only [List.length_append, List.length_cons, List.length_nil]; omega)
   have e0 : w7.cell? ⟨g6, 0, none⟩ = some (.int .i64 q.1.k) := HQ7.out.blk.cell 0
   have e1 : w7.cell? ⟨g6, 1, none⟩ = some (.int .i64 q.1.n) := HQ7.out.blk.cell 1
   have e2 : w7.cell? ⟨g6, 2, none⟩ = some (.int .i64 q.1.s) := HQ7.out.blk.cell 2
   have e3 : w7.cell? ⟨g6, 3, none⟩ = some (.string q.1.t) := HQ7.out.blk.cell 3
   have e4 : w7.cell? ⟨g6, 4, none⟩ = some (.slice na' q.1.ns.length nc') := HQ7.out.blk.cell 4
   have e5 : w7.cell? ⟨g6, 5, none⟩ = some (.slice ka' q.2.list.length kc') := HQ7.out.blk.cell 5
   go_wp2_with fail
   refine KV.mono ?_
   rintro e w8 ⟨v8, rfl, H8⟩
   have HX8 : Hid (Xb b W.heap.size w8 v8 41 [.int .i64 8, .int .i64 p.1.n, .int .i64 p.1.s, .string p.1.t, .slice na p.1.ns.length nc, .slice (some ⟨bq, oq, none⟩) p.2.list.length kc]) := HX7.out.step H8.out
   have HQ8 : Hid (Xb b g6 w8 v8 41 (six q.1 na' nc' ka' q.2.list.length kc')) := HQ7.out.step H8.out
   have HA8 : Hid (Bw b B W w8 v v8 ((l ++ (91 :: D)) ++ prV q)) := HA7.out.trans H8.out
   clear KV H8 HX7 HQ7 HA7 e0 e1 e2 e3 e4 e5 Hb7 cb0
   have HF : Hid (Bw b B W w8 v v8 (l ++ (91 :: (D ++ ([] ++ (prV q))))) /\ Xb b W.heap.size w8 v8 41 [.int .i64 8, .int .i64 p.1.n, .int .i64 p.1.s, .string p.1.t, .slice na p.1.ns.length nc, .slice (some ⟨bq, oq, none⟩) p.2.list.length kc] /\ (D ++ ([] ++ (prV q))) ++ prF (p.2.drop (k + 1)) false (p.1.ns.drop (k + 1)) (decide (k + 1 = 0)) = prF p.2 false p.1.ns true) := by
    refine ⟨?_, HX8.out, ?_⟩
    . have := HA8.out
      simp only [List.append_assoc, List.cons_append, List.nil_append] at this ⊢
      exact this
    . rw [<- HD.out, HPz.out, decide_eq_false (by omega)]
      simp only [List.append_assoc, List.cons_append, List.nil_append]
   clear HX8 HQ8 HA8 HD HP HPz hln
   go_wp2
   go_roundw
   case rel => exact ⟨k + 1, v8, _, by omega, by go_num, HF.out⟩
   case measure => simp [intOf]; omega
  have HPz : Hid (prF (p.2.drop k) false (p.1.ns.drop k) (decide (k = 0)) = [44, 32] ++ ((prV q ++ prF (p.2.drop (k + 1)) false (p.1.ns.drop (k + 1)) false))) := by
   show _ = _
   have := HP.out
   rw [decide_eq_false (show ¬ k = 0 from h0)] at this
   rw [decide_eq_false (show ¬ k = 0 from h0)]
   simpa using this
  have hln : l.length + 1 + D.length + 2 + (prV q).length + 1 <= 700000000 := by
   have h1 := HT.out
   have h2 := congrArg List.length HD.out
   have h3 := congrArg List.length HPz.out
   simp only [List.length_append, List.length_cons, List.length_nil] at h1 h2 h3
   omega
  have hgt : (0 : Int) < (k : Int) := by omega
  have KS := wrs9 ⟨#[44, 32]⟩ HA7.out.bs (by simp only [List.length_append, List.length_cons, List.length_nil]; show _ + 2 <= _; omega)
  go_wp2_with fail
  refine KS.mono ?_
  rintro e w8 ⟨v8, rfl, H8⟩
  have HX8 : Hid (Xb b W.heap.size w8 v8 41 [.int .i64 8, .int .i64 p.1.n, .int .i64 p.1.s, .string p.1.t, .slice na p.1.ns.length nc, .slice (some ⟨bq, oq, none⟩) p.2.list.length kc]) := HX7.out.step H8.out
  have HQ8 : Hid (Xb b g6 w8 v8 41 (six q.1 na' nc' ka' q.2.list.length kc')) := HQ7.out.step H8.out
  have HA8 : Hid (Bw b B W w8 v v8 ((l ++ (91 :: D)) ++ [44, 32])) := HA7.out.trans H8.out
  clear KS H8 HX7 HQ7 HA7
  have cb0 : w8.cell? ⟨W.heap.size, 0, none⟩ = some (.int .i64 8) := HX8.out.blk.cell 0
  have Hb8 : Hid (Below w0.heap.size w0 w8) := HA8.out.down HS0.out HBw.out hB0
  have KV := HQ.out na' nc' ka' kc' b B v8 ((l ++ (91 :: D)) ++ [44, 32]) w0 w8 HVq.out Hb8.out hB0 HTb.out HA8.out.bs (by simp only [List.length_append, List.length_cons, List.length_nil]; omega)
  have e0 : w8.cell? ⟨g6, 0, none⟩ = some (.int .i64 q.1.k) := HQ8.out.blk.cell 0
  have e1 : w8.cell? ⟨g6, 1, none⟩ = some (.int .i64 q.1.n) := HQ8.out.blk.cell 1
  have e2 : w8.cell? ⟨g6, 2, none⟩ = some (.int .i64 q.1.s) := HQ8.out.blk.cell 2
  have e3 : w8.cell? ⟨g6, 3, none⟩ = some (.string q.1.t) := HQ8.out.blk.cell 3
  have e4 : w8.cell? ⟨g6, 4, none⟩ = some (.slice na' q.1.ns.length nc') := HQ8.out.blk.cell 4
  have e5 : w8.cell? ⟨g6, 5, none⟩ = some (.slice ka' q.2.list.length kc') := HQ8.out.blk.cell 5
  go_wp2_with fail
  refine KV.mono ?_
  rintro e w9 ⟨v9, rfl, H9⟩
  have HX9 : Hid (Xb b W.heap.size w9 v9 41 [.int .i64 8, .int .i64 p.1.n, .int .i64 p.1.s, .string p.1.t, .slice na p.1.ns.length nc, .slice (some ⟨bq, oq, none⟩) p.2.list.length kc]) := HX8.out.step H9.out
  have HQ9 : Hid (Xb b g6 w9 v9 41 (six q.1 na' nc' ka' q.2.list.length kc')) := HQ8.out.step H9.out
  have HA9 : Hid (Bw b B W w9 v v9 (((l ++ (91 :: D)) ++ [44, 32]) ++ prV q)) := HA8.out.trans H9.out
  clear KV H9 HX8 HQ8 HA8 e0 e1 e2 e3 e4 e5 Hb8 cb0
  have HF : Hid (Bw b B W w9 v v9 (l ++ (91 :: (D ++ ([44, 32] ++ (prV q))))) /\ Xb b W.heap.size w9 v9 41 [.int .i64 8, .int .i64 p.1.n, .int .i64 p.1.s, .string p.1.t, .slice na p.1.ns.length nc, .slice (some ⟨bq, oq, none⟩) p.2.list.length kc] /\ (D ++ ([44, 32] ++ (prV q))) ++ prF (p.2.drop (k + 1)) false (p.1.ns.drop (k + 1)) (decide (k + 1 = 0)) = prF p.2 false p.1.ns true) := by
   refine ⟨?_, HX9.out, ?_⟩
   . have := HA9.out
     simp only [List.append_assoc, List.cons_append, List.nil_append] at this ⊢
     exact this
   . rw [<- HD.out, HPz.out, decide_eq_false (by omega)]
     simp only [List.append_assoc, List.cons_append, List.nil_append]
  clear HX9 HQ9 HA9 HD HP HPz hln
  go_wp2
  go_roundw
  case rel => exact ⟨k + 1, v9, _, by omega, by go_num, HF.out⟩
  case measure => simp [intOf]; omega
theorem wk9 (p : Vt) (hkl : p.2.list.length <= 200) (hn : p.1.ns.length = p.2.list.length) (hn2 : ∀ x ∈ p.1.ns, x.size <= 40) (ih : ∀ q ∈ p.2.list, WvC q) (na : Option Addr) (nc : Nat) (ka : Option Addr) (kc b B : Nat) (v : Value) (l : List Nat) (w0 W : World) (hv : Vl w0 p na nc ka kc) (hb : Below w0.heap.size w0 W) (hB0 : w0.heap.size <= B) (ht : D6.Ptab w0) (h : Bs b B W v l) (hl : l.length + (prF p.2 true p.1.ns true).length + 2 <= 700000000) :
 Calls Tryz.prog 144 #[.pointer (some ⟨b, 0, none⟩), .agg #[.int .i64 9, .int .i64 p.1.n, .int .i64 p.1.s, .string p.1.t, .slice na p.1.ns.length nc, .slice ka p.2.list.length kc], .string ⟨#[123]⟩, .string ⟨#[125]⟩] W fun e w' => ∃ v', e = .returned (.tuple #[]) /\ Hid (Bw b B W w' v v' (l ++ (123 :: (prF p.2 true p.1.ns true ++ [125])))) := by
 obtain ⟨W1, HW1⟩ : ∃ W1, Hid (W.alloc (.cells #[.int .i64 9, .int .i64 p.1.n, .int .i64 p.1.s, .string p.1.t, .slice na p.1.ns.length nc, .slice ka p.2.list.length kc] 41) = W1) := ⟨_, rfl⟩
 have HB1 : Hid (Below W.heap.size W W1) := by rw [<- HW1.out]; exact (Below.refl _ _).alloc (Nat.le_refl _) _
 have HX1 : Hid (Xb b W.heap.size W1 v 41 [.int .i64 9, .int .i64 p.1.n, .int .i64 p.1.s, .string p.1.t, .slice na p.1.ns.length nc, .slice ka p.2.list.length kc]) := Xb.new h (by rw [<- HW1.out]; exact blk_new W 41 [.int .i64 9, .int .i64 p.1.n, .int .i64 p.1.s, .string p.1.t, .slice na p.1.ns.length nc, .slice ka p.2.list.length kc]) (Nat.le_refl _)
 have HS1 : Hid (Bs b B W1 v l) := h.below HB1.out
 have HS0 : Hid (Bs b B W v l) := h
 have HV : Hid (Vl w0 p na nc ka kc) := hv
 have HI : Hid (∀ q ∈ p.2.list, WvC q) := ih
 have HBw : Hid (Below w0.heap.size w0 W) := hb
 have HTb : Hid (D6.Ptab w0) := ht
 have HT : Hid (l.length + (prF p.2 true p.1.ns true).length + 2 <= 700000000) := hl
 have HN2 : Hid (∀ x ∈ p.1.ns, x.size <= 40) := hn2
 have HNl : Hid (p.1.ns.length = p.2.list.length) := hn
 clear hn hn2
 have K0 := wrs9 ⟨#[123]⟩ HS1.out (by show l.length + 1 <= _; omega)
 clear h hv ih hb ht hl
 go_enter Tryz.func144, Tryz.ntmps144
 go_wp2_with fail
 generalize hWW : World.alloc W _ = W9
 obtain rfl : W1 = W9 := by rw [<- hWW, <- HW1.out]
 clear hWW HW1
 refine K0.mono ?_
 rintro e w2 ⟨v1, rfl, H1⟩
 have HX2 : Hid (Xb b W.heap.size w2 v1 41 [.int .i64 9, .int .i64 p.1.n, .int .i64 p.1.s, .string p.1.t, .slice na p.1.ns.length nc, .slice ka p.2.list.length kc]) := HX1.out.step H1.out
 have HA2 : Hid (Bw b B W w2 v v1 (l ++ (123 :: []))) := Bw.after HB1.out H1.out
 have HD0 : Hid ([] ++ prF (p.2.drop 0) true (p.1.ns.drop 0) (decide (0 = 0)) = prF p.2 true p.1.ns true) := by show _ = _; simp [Fo.drop]
 have c5 : w2.cell? ⟨W.heap.size, 5, none⟩ = some (.slice ka p.2.list.length kc) := HX2.out.blk.cell 5
 clear K0 H1 HX1 HS1 HB1
 go_wp2
 clear c5
 go_loopw [8, 9, 16] (fun _ _ i wr => ∃ (k : Nat) (v2 : Value) (D : List Nat), k <= p.2.list.length /\ i = .int .i64 (k : Int) /\ Hid (Bw b B W wr v v2 (l ++ (123 :: D)) /\ Xb b W.heap.size wr v2 41 [.int .i64 9, .int .i64 p.1.n, .int .i64 p.1.s, .string p.1.t, .slice na p.1.ns.length nc, .slice ka p.2.list.length kc] /\ D ++ prF (p.2.drop k) true (p.1.ns.drop k) (decide (k = 0)) = prF p.2 true p.1.ns true)) (fun _ _ i _ => p.2.list.length - (intOf i).toNat)
 case atStart => exact ⟨0, v1, [], by omega, rfl, HA2.out, HX2.out, HD0.out⟩
 case round =>
  clear HX2 HA2 HD0
  obtain ⟨k, v2, D, hk0, rfl, HK⟩ := hrel
  have HA : Hid (Bw b B W wr v v2 (l ++ (123 :: D))) := HK.out.1
  have HX : Hid (Xb b W.heap.size wr v2 41 [.int .i64 9, .int .i64 p.1.n, .int .i64 p.1.s, .string p.1.t, .slice na p.1.ns.length nc, .slice ka p.2.list.length kc]) := HK.out.2.1
  have HD : Hid (D ++ prF (p.2.drop k) true (p.1.ns.drop k) (decide (k = 0)) = prF p.2 true p.1.ns true) := HK.out.2.2
  clear HK
  by_cases hlt : k < p.2.list.length
  case neg =>
   have hD : D = prF p.2 true p.1.ns true := by
    have := HD.out
    rw [Fo.drop_end _ _ (by omega)] at this
    simpa [prF] using this
   subst hD
   have K1 := wrs9 ⟨#[125]⟩ HA.out.bs (by have := HT.out; simp only [List.length_append, List.length_cons]; show _ + 1 <= _; omega)
   go_wp2_with fail
   refine K1.mono ?_
   rintro e w3 ⟨v3, rfl, H3⟩
   have HF : Hid (Bw b B W w3 v v3 (l ++ (123 :: (prF p.2 true p.1.ns true ++ [125])))) := by
    have := HA.out.trans H3.out
    rw [List.append_assoc] at this
    exact this
   clear K1 H3 HA HX HD
   go_wp2
   go_end0
   exact ⟨v3, rfl, HF.out⟩
  have HBr : Hid (Below w0.heap.size w0 wr) := HA.out.down HS0.out HBw.out hB0
  obtain ⟨q, bq, oq, na', nc', ka', kc', hq, rfl, hnd, hvl⟩ := HV.out.kid (Below.refl _ _) (k := k) hlt
  have HQ : Hid (WvC q) := HI.out q (List.mem_of_getElem? hq)
  have HVq : Hid (Vl w0 q na' nc' ka' kc') := hvl
  have HP : Hid (prF (p.2.drop k) true (p.1.ns.drop k) (decide (k = 0)) = _) := prF_drop hq
  obtain ⟨d0, d1, d2, d3, d4, d5⟩ := hnd.below HBr.out
  clear hnd hvl hq
  obtain ⟨nm, hnm⟩ : ∃ nm, p.1.ns[k]? = some nm := ⟨_, List.getElem?_eq_getElem (by have := HNl.out; omega)⟩
  have hns : nm.size <= 40 := HN2.out nm (List.mem_of_getElem? hnm)
  have hhd : (p.1.ns.drop k).headD ⟨#[]⟩ = nm := by
   rw [List.headD_eq_head?_getD, List.head?_drop, hnm]
   rfl
  obtain ⟨bn, on, hna, hcn⟩ : ∃ bn on, na = some ⟨bn, on, none⟩ /\ wr.cell? ⟨bn, on + k, none⟩ = some (.string nm) := by
   rcases HV.out.nms with e | ⟨bn, on, e, hc⟩
   . rw [e] at hnm; simp at hnm
   . exact ⟨bn, on, e, (HBr.out.cell (p := ⟨bn, on + k, none⟩) (cell_lt (hc k nm hnm))).trans (hc k nm hnm)⟩
  subst hna
  have hkn : (k : Int) < (p.1.ns.length : Int) := by have := HNl.out; omega
  go_wp2_with (refine al_zero rfl 41 rfl zer z25 ?_)
  intro g6 w6 hg6 Bz6 gr6
  go_wp2_with (refine st_all rfl 41 (.tmp 9) (.tmp 20) rfl g6 41 zer (six q.1 na' nc' ka' q.2.list.length kc') rfl rfl Bz6 rfl s25 (six_one _ _ _ _ _ _) ?_)
  intro w7 B7 gr7
  have G7 : Hid (Below wr.heap.size wr w7) := below_new gr6 hg6 gr7
  have HX7 : Hid (Xb b W.heap.size w7 v2 41 [.int .i64 9, .int .i64 p.1.n, .int .i64 p.1.s, .string p.1.t, .slice (some ⟨bn, on, none⟩) p.1.ns.length nc, .slice (some ⟨bq, oq, none⟩) p.2.list.length kc]) := HX.out.below G7.out
  have HQ7 : Hid (Xb b g6 w7 v2 41 (six q.1 na' nc' ka' q.2.list.length kc')) := Xb.new HA.out.bs B7 hg6
  have HA7 : Hid (Bw b B W w7 v v2 (l ++ (123 :: D))) := HA.out.more G7.out
  have HC7 : Hid (w7.cell? ⟨bn, on + k, none⟩ = some (.string nm) /\ bn < w0.heap.size) := by
   refine ⟨(G7.out.cell (p := ⟨bn, on + k, none⟩) (cell_lt hcn)).trans hcn, ?_⟩
   rcases HV.out.nms with e | ⟨bn', on', e, hc⟩
   . rw [e] at hnm; simp at hnm
   . injection e with e; injection e with e1 e2; subst e1 e2; exact cell_lt (hc k nm hnm)
  clear hcn
  clear Bz6 gr6 gr7 B7 d0 d1 d2 d3 d4 d5 HA HX G7 HBr hg6
  by_cases h0 : k = 0
  case pos =>
   have HPz : Hid (prF (p.2.drop k) true (p.1.ns.drop k) (decide (k = 0)) = [] ++ (pQ nm ++ [58, 32] ++ (prV q ++ prF (p.2.drop (k + 1)) true (p.1.ns.drop (k + 1)) false))) := by
    show _ = _
    have := HP.out
    rw [decide_eq_true (show k = 0 from h0)] at this
    rw [decide_eq_true (show k = 0 from h0)]
    rw [hhd] at this
    simpa using this
   have hln : l.length + 1 + D.length + 0 + (pQ nm).length + 2 + (prV q).length + 1 <= 700000000 := by
    have h1 := HT.out
    have h2 := congrArg List.length HD.out
    have h3 := congrArg List.length HPz.out
    simp only [List.length_append, List.length_cons, List.length_nil] at h1 h2 h3
    omega
   have hgt : ¬ (0 : Int) < (k : Int) := by omega
   clear h0
   have cb0 : w7.cell? ⟨W.heap.size, 0, none⟩ = some (.int .i64 9) := HX7.out.blk.cell 0
   have cb4 : w7.cell? ⟨W.heap.size, 4, none⟩ = some (.slice (some ⟨bn, on, none⟩) p.1.ns.length nc) := HX7.out.blk.cell 4
   have cbn : w7.cell? ⟨bn, on + k, none⟩ = some (.string nm) := HC7.out.1
   have KN := wtext9 nm HA7.out.bs (by simp only [List.length_append, List.length_cons, List.length_nil]; omega)
   go_wp2_with fail
   refine KN.mono ?_
   rintro e w8 ⟨v8, rfl, H8⟩
   have HX8 : Hid (Xb b W.heap.size w8 v8 41 [.int .i64 9, .int .i64 p.1.n, .int .i64 p.1.s, .string p.1.t, .slice (some ⟨bn, on, none⟩) p.1.ns.length nc, .slice (some ⟨bq, oq, none⟩) p.2.list.length kc]) := HX7.out.step H8.out
   have HQ8 : Hid (Xb b g6 w8 v8 41 (six q.1 na' nc' ka' q.2.list.length kc')) := HQ7.out.step H8.out
   have HA8 : Hid (Bw b B W w8 v v8 ((l ++ (123 :: D)) ++ pQ nm)) := HA7.out.trans H8.out
   clear KN H8 HX7 HQ7 HA7 cb0 cb4 cbn
   have KC := wrs9 ⟨#[58, 32]⟩ HA8.out.bs (by simp only [List.length_append, List.length_cons, List.length_nil]; show _ + 2 <= _; omega)
   go_wp2_with fail
   refine KC.mono ?_
   rintro e w9 ⟨v9, rfl, H9⟩
   have HX9 : Hid (Xb b W.heap.size w9 v9 41 [.int .i64 9, .int .i64 p.1.n, .int .i64 p.1.s, .string p.1.t, .slice (some ⟨bn, on, none⟩) p.1.ns.length nc, .slice (some ⟨bq, oq, none⟩) p.2.list.length kc]) := HX8.out.step H9.out
   have HQ9 : Hid (Xb b g6 w9 v9 41 (six q.1 na' nc' ka' q.2.list.length kc')) := HQ8.out.step H9.out
   have HA9 : Hid (Bw b B W w9 v v9 (((l ++ (123 :: D)) ++ pQ nm) ++ [58, 32])) := HA8.out.trans H9.out
   clear KC H9 HX8 HQ8 HA8
   have Hb9 : Hid (Below w0.heap.size w0 w9) := HA9.out.down HS0.out HBw.out hB0
   have KV := HQ.out na' nc' ka' kc' b B v9 (((l ++ (123 :: D)) ++ pQ nm) ++ [58, 32]) w0 w9 HVq.out Hb9.out hB0 HTb.out HA9.out.bs (by simp only [List.length_append, List.length_cons, List.length_nil]; omega)
   have e0 : w9.cell? ⟨g6, 0, none⟩ = some (.int .i64 q.1.k) := HQ9.out.blk.cell 0
   have e1 : w9.cell? ⟨g6, 1, none⟩ = some (.int .i64 q.1.n) := HQ9.out.blk.cell 1
   have e2 : w9.cell? ⟨g6, 2, none⟩ = some (.int .i64 q.1.s) := HQ9.out.blk.cell 2
   have e3 : w9.cell? ⟨g6, 3, none⟩ = some (.string q.1.t) := HQ9.out.blk.cell 3
   have e4 : w9.cell? ⟨g6, 4, none⟩ = some (.slice na' q.1.ns.length nc') := HQ9.out.blk.cell 4
   have e5 : w9.cell? ⟨g6, 5, none⟩ = some (.slice ka' q.2.list.length kc') := HQ9.out.blk.cell 5
   go_wp2_with fail
   refine KV.mono ?_
   rintro e w10 ⟨v10, rfl, H10⟩
   have HX10 : Hid (Xb b W.heap.size w10 v10 41 [.int .i64 9, .int .i64 p.1.n, .int .i64 p.1.s, .string p.1.t, .slice (some ⟨bn, on, none⟩) p.1.ns.length nc, .slice (some ⟨bq, oq, none⟩) p.2.list.length kc]) := HX9.out.step H10.out
   have HQ10 : Hid (Xb b g6 w10 v10 41 (six q.1 na' nc' ka' q.2.list.length kc')) := HQ9.out.step H10.out
   have HA10 : Hid (Bw b B W w10 v v10 ((((l ++ (123 :: D)) ++ pQ nm) ++ [58, 32]) ++ prV q)) := HA9.out.trans H10.out
   clear KV H10 HX9 HQ9 HA9 e0 e1 e2 e3 e4 e5 Hb9
   have HF : Hid (Bw b B W w10 v v10 (l ++ (123 :: (D ++ ([] ++ (pQ nm ++ [58, 32] ++ prV q))))) /\ Xb b W.heap.size w10 v10 41 [.int .i64 9, .int .i64 p.1.n, .int .i64 p.1.s, .string p.1.t, .slice (some ⟨bn, on, none⟩) p.1.ns.length nc, .slice (some ⟨bq, oq, none⟩) p.2.list.length kc] /\ (D ++ ([] ++ (pQ nm ++ [58, 32] ++ prV q))) ++ prF (p.2.drop (k + 1)) true (p.1.ns.drop (k + 1)) (decide (k + 1 = 0)) = prF p.2 true p.1.ns true) := by
    refine ⟨?_, HX10.out, ?_⟩
    . have := HA10.out
      simp only [List.append_assoc, List.cons_append, List.nil_append] at this ⊢
      exact this
    . rw [<- HD.out, HPz.out, decide_eq_false (by omega)]
      simp only [List.append_assoc, List.cons_append, List.nil_append]
   clear HX10 HQ10 HA10 HD HP HPz hln
   go_wp2
   go_roundw
   case rel => exact ⟨k + 1, v10, _, by omega, by go_num, HF.out⟩
   case measure => simp [intOf]; omega
  have HPz : Hid (prF (p.2.drop k) true (p.1.ns.drop k) (decide (k = 0)) = [44, 32] ++ (pQ nm ++ [58, 32] ++ (prV q ++ prF (p.2.drop (k + 1)) true (p.1.ns.drop (k + 1)) false))) := by
   show _ = _
   have := HP.out
   rw [decide_eq_false (show ¬ k = 0 from h0)] at this
   rw [decide_eq_false (show ¬ k = 0 from h0)]
   rw [hhd] at this
   simpa using this
  have hln : l.length + 1 + D.length + 2 + (pQ nm).length + 2 + (prV q).length + 1 <= 700000000 := by
   have h1 := HT.out
   have h2 := congrArg List.length HD.out
   have h3 := congrArg List.length HPz.out
   simp only [List.length_append, List.length_cons, List.length_nil] at h1 h2 h3
   omega
  have hgt : (0 : Int) < (k : Int) := by omega
  have KS := wrs9 ⟨#[44, 32]⟩ HA7.out.bs (by simp only [List.length_append, List.length_cons, List.length_nil]; show _ + 2 <= _; omega)
  go_wp2_with fail
  refine KS.mono ?_
  rintro e w8 ⟨v8, rfl, H8⟩
  have HX8 : Hid (Xb b W.heap.size w8 v8 41 [.int .i64 9, .int .i64 p.1.n, .int .i64 p.1.s, .string p.1.t, .slice (some ⟨bn, on, none⟩) p.1.ns.length nc, .slice (some ⟨bq, oq, none⟩) p.2.list.length kc]) := HX7.out.step H8.out
  have HQ8 : Hid (Xb b g6 w8 v8 41 (six q.1 na' nc' ka' q.2.list.length kc')) := HQ7.out.step H8.out
  have HA8 : Hid (Bw b B W w8 v v8 ((l ++ (123 :: D)) ++ [44, 32])) := HA7.out.trans H8.out
  have HC8 : Hid (w8.cell? ⟨bn, on + k, none⟩ = some (.string nm) /\ bn < w0.heap.size) := by
   refine ⟨?_, HC7.out.2⟩
   have h1 := HC7.out.1
   rw [<- h1]
   unfold World.cell?
   have h2 := HA7.out.bs.lt
   have h3 := HS0.out.le
   have h4 := HC7.out.2
   rw [H8.out.keep bn (by omega) (by omega) (fun e => by have := (World.ownsRow.lt HA7.out.bs.own _ e).1; omega)]
  clear KS H8 HC7 HX7 HQ7 HA7
  have cb0 : w8.cell? ⟨W.heap.size, 0, none⟩ = some (.int .i64 9) := HX8.out.blk.cell 0
  have cb4 : w8.cell? ⟨W.heap.size, 4, none⟩ = some (.slice (some ⟨bn, on, none⟩) p.1.ns.length nc) := HX8.out.blk.cell 4
  have cbn : w8.cell? ⟨bn, on + k, none⟩ = some (.string nm) := HC8.out.1
  have KN := wtext9 nm HA8.out.bs (by simp only [List.length_append, List.length_cons, List.length_nil]; omega)
  go_wp2_with fail
  refine KN.mono ?_
  rintro e w9 ⟨v9, rfl, H9⟩
  have HX9 : Hid (Xb b W.heap.size w9 v9 41 [.int .i64 9, .int .i64 p.1.n, .int .i64 p.1.s, .string p.1.t, .slice (some ⟨bn, on, none⟩) p.1.ns.length nc, .slice (some ⟨bq, oq, none⟩) p.2.list.length kc]) := HX8.out.step H9.out
  have HQ9 : Hid (Xb b g6 w9 v9 41 (six q.1 na' nc' ka' q.2.list.length kc')) := HQ8.out.step H9.out
  have HA9 : Hid (Bw b B W w9 v v9 (((l ++ (123 :: D)) ++ [44, 32]) ++ pQ nm)) := HA8.out.trans H9.out
  clear KN H9 HX8 HQ8 HA8 cb0 cb4 cbn
  have KC := wrs9 ⟨#[58, 32]⟩ HA9.out.bs (by simp only [List.length_append, List.length_cons, List.length_nil]; show _ + 2 <= _; omega)
  go_wp2_with fail
  refine KC.mono ?_
  rintro e w10 ⟨v10, rfl, H10⟩
  have HX10 : Hid (Xb b W.heap.size w10 v10 41 [.int .i64 9, .int .i64 p.1.n, .int .i64 p.1.s, .string p.1.t, .slice (some ⟨bn, on, none⟩) p.1.ns.length nc, .slice (some ⟨bq, oq, none⟩) p.2.list.length kc]) := HX9.out.step H10.out
  have HQ10 : Hid (Xb b g6 w10 v10 41 (six q.1 na' nc' ka' q.2.list.length kc')) := HQ9.out.step H10.out
  have HA10 : Hid (Bw b B W w10 v v10 ((((l ++ (123 :: D)) ++ [44, 32]) ++ pQ nm) ++ [58, 32])) := HA9.out.trans H10.out
  clear KC H10 HX9 HQ9 HA9
  have Hb10 : Hid (Below w0.heap.size w0 w10) := HA10.out.down HS0.out HBw.out hB0
  have KV := HQ.out na' nc' ka' kc' b B v10 ((((l ++ (123 :: D)) ++ [44, 32]) ++ pQ nm) ++ [58, 32]) w0 w10 HVq.out Hb10.out hB0 HTb.out HA10.out.bs (by simp only [List.length_append, List.length_cons, List.length_nil]; omega)
  have e0 : w10.cell? ⟨g6, 0, none⟩ = some (.int .i64 q.1.k) := HQ10.out.blk.cell 0
  have e1 : w10.cell? ⟨g6, 1, none⟩ = some (.int .i64 q.1.n) := HQ10.out.blk.cell 1
  have e2 : w10.cell? ⟨g6, 2, none⟩ = some (.int .i64 q.1.s) := HQ10.out.blk.cell 2
  have e3 : w10.cell? ⟨g6, 3, none⟩ = some (.string q.1.t) := HQ10.out.blk.cell 3
  have e4 : w10.cell? ⟨g6, 4, none⟩ = some (.slice na' q.1.ns.length nc') := HQ10.out.blk.cell 4
  have e5 : w10.cell? ⟨g6, 5, none⟩ = some (.slice ka' q.2.list.length kc') := HQ10.out.blk.cell 5
  go_wp2_with fail
  refine KV.mono ?_
  rintro e w11 ⟨v11, rfl, H11⟩
  have HX11 : Hid (Xb b W.heap.size w11 v11 41 [.int .i64 9, .int .i64 p.1.n, .int .i64 p.1.s, .string p.1.t, .slice (some ⟨bn, on, none⟩) p.1.ns.length nc, .slice (some ⟨bq, oq, none⟩) p.2.list.length kc]) := HX10.out.step H11.out
  have HQ11 : Hid (Xb b g6 w11 v11 41 (six q.1 na' nc' ka' q.2.list.length kc')) := HQ10.out.step H11.out
  have HA11 : Hid (Bw b B W w11 v v11 (((((l ++ (123 :: D)) ++ [44, 32]) ++ pQ nm) ++ [58, 32]) ++ prV q)) := HA10.out.trans H11.out
  clear KV H11 HX10 HQ10 HA10 e0 e1 e2 e3 e4 e5 Hb10
  have HF : Hid (Bw b B W w11 v v11 (l ++ (123 :: (D ++ ([44, 32] ++ (pQ nm ++ [58, 32] ++ prV q))))) /\ Xb b W.heap.size w11 v11 41 [.int .i64 9, .int .i64 p.1.n, .int .i64 p.1.s, .string p.1.t, .slice (some ⟨bn, on, none⟩) p.1.ns.length nc, .slice (some ⟨bq, oq, none⟩) p.2.list.length kc] /\ (D ++ ([44, 32] ++ (pQ nm ++ [58, 32] ++ prV q))) ++ prF (p.2.drop (k + 1)) true (p.1.ns.drop (k + 1)) (decide (k + 1 = 0)) = prF p.2 true p.1.ns true) := by
   refine ⟨?_, HX11.out, ?_⟩
   . have := HA11.out
     simp only [List.append_assoc, List.cons_append, List.nil_append] at this ⊢
     exact this
   . rw [<- HD.out, HPz.out, decide_eq_false (by omega)]
     simp only [List.append_assoc, List.cons_append, List.nil_append]
  clear HX11 HQ11 HA11 HD HP HPz hln
  go_wp2
  go_roundw
  case rel => exact ⟨k + 1, v11, _, by omega, by go_num, HF.out⟩
  case measure => simp [intOf]; omega
end Go.Proofs.YtpfiejmhnkcjbaaGreatDoor
