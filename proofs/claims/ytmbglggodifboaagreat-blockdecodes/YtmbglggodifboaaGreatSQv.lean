import Derived.Test.YtmbglggodifboaaGreatSG39x
set_option maxHeartbeats 2000000
set_option maxRecDepth 8000
set_option linter.unusedSimpArgs false
set_option linter.unusedVariables false
namespace Go.Proofs.YtmbglggodifboaaGreat
open Go.RowKit Math
structure Qf (w0 : World) (r : Nat) (W w : World) (g4 g5 : Nat) (cs : List Value) (l : List Nat) (e : Int) : Prop where
 ro : Ro2 w0 r W w l e
 b4 : Blk w g4 48 zer
 b5 : Blk w g5 48 cs
 r4 : r < W.heap.size
 l4 : W.heap.size <= g4
 l45 : g4 < g5
 w0W : w0.heap.size <= W.heap.size
section
variable {w0 : World} {r : Nat} {W w w' : World} {g4 g5 : Nat} {cs cs' : List Value} {l l' : List Nat} {e e' : Int}
theorem Qf.prim (h : Qf w0 r W w g4 g5 cs l e) (k : Ro2 w0 r w w' l' e') : Qf w0 r W w' g4 g5 cs l' e' := by
 have := h.r4
 have := h.l4
 have := h.l45
 exact ⟨h.ro.trans k, h.b4.kept k.gr (by intro c; injection c with c; omega), h.b5.kept k.gr (by intro c; injection c with c; omega), h.r4, h.l4, h.l45, h.w0W⟩
theorem Qf.put (h : Qf w0 r W w g4 g5 cs l e) (hb : Blk w' g5 48 cs') (g : w.grownBy w' (some g5)) : Qf w0 r W w' g4 g5 cs' l e := by
 have := h.r4
 have := h.l4
 have := h.l45
 have := h.w0W
 exact ⟨ro2_grown h.ro g (fun x c => by injection c with c; omega), h.b4.kept g (by intro c; injection c with c; omega), hb, h.r4, h.l4, h.l45, h.w0W⟩
theorem Qf.fail (h : Qf w0 r W w g4 g5 cs l e) {a : Option Addr} {c : Nat} (hx : Byt w0 a l /\ (a = none -> c = 0) /\ l.length <= c /\ c <= 9223372036854775807) (hb : Blk w' r 117 [.slice a l.length c, .int .i64 e']) (g : w.grownBy w' (some r)) : Qf w0 r W w' g4 g5 cs l e' :=
 h.prim ⟨h.ro.rq.same hb g hx.1 hx.2.1 hx.2.2.1 hx.2.2.2 h.ro.rq.oct h.ro.rq.len, g⟩
theorem Qf.res (h : Qf w0 r W w g4 g5 cs l e) (g : w.grownBy w' (some g4)) : Ro2 w0 r W w' l e := by
 have := h.r4
 have := h.l4
 have := h.w0W
 exact ro2_grown h.ro g (fun x c => by injection c with c; omega)
end
theorem sq_map {α β : Type} {f : Rdr α} {l l1 : List Nat} {err e1 : Int} {x : α} (h : Sq f l err l1 e1 x) (q : α -> β) : Sq (f.bind fun x => .ret (q x)) l err l1 e1 (q x) := sq_bind h (sq_ret (q x) l1 e1)
theorem sq_more {d n m : Nat} {b : Bool} {l lx : List Nat} {err e : Int} {q : Fo × List ByteArray} (h : Sq (rdN (fun l => rdV d l) b m) l err lx e q) (hm : m <= n) (he : e ≠ 0) : Sq (rdN (fun l => rdV d l) b n) l err lx e q := by
 rcases h with h | ⟨a, ⟨_, b⟩ | ⟨x, h1, h2, h3⟩⟩
 . exact .inl h
 . exact absurd b he
 . exact .inr ⟨a, .inr ⟨x, rd_err h1 n hm, h2, h3⟩⟩
theorem qval_deep : QvC 0 17 := by
 intro w0 W r l err hR hw
 obtain ⟨a0, k0, hb0, hx0⟩ := hR.ex
 have HR : Hid (Rq w0 r W l err) := hR
 have hrW : r < W.heap.size := hb0.lt
 clear hb0 hx0 hR
 go_enter Tryz.func67, Tryz.ntmps67
 go_wp2_with (refine al_zero rfl 48 rfl zer z25 ?_)
 intro g4 w1 hg4 B4 gr4
 have G1 : Hid (Below W.heap.size W w1) := (Below.refl _ _).grown gr4 (Nat.le_refl _) (fun k e => by cases e)
 have HB4 : Hid (Blk w1 g4 48 zer) := B4
 have HR1 : Hid (Ro2 w0 r W w1 l err) := ⟨HR.out.keep (by simp) gr4 (fun x c => by cases c), ⟨G1.out.os, G1.out.tape, G1.out.output, G1.out.size, fun x hx _ => G1.out.block x hx⟩⟩
 obtain ⟨a, c, hb, hx⟩ := HR1.out.rq.ex
 have HBk : Hid (Blk w1 r 117 [.slice a l.length c, .int .i64 err]) := hb
 have HX : Hid (Byt w0 a l /\ (a = none -> c = 0) /\ l.length <= c /\ c <= 9223372036854775807) := hx
 have c1 : w1.cell? ⟨r, 1, none⟩ = some (.int .i64 err) := hb.cell 1
 have h4s : g4 < w1.heap.size := B4.lt
 clear B4 gr4 hb hx HR G1
 by_cases he : err = 0
 case neg =>
  have h2 : (err != 0) = true := by simpa using he
  go_wp2_with (refine st_all rfl 48 (.tmp 4) (.tmp 14) rfl g4 48 zer zer rfl rfl HB4.out rfl s25 (by simp [zer, Value.oneCell']) ?_)
  intro w6 b6 g6
  have HB6 : Hid (Blk w6 g4 48 zer) := b6
  have HQ : Hid (Qo (rdV 0) w0 r W w6 l err (lf 0 0 0 em) none 0 none 0 l err) := ⟨ro2_grown HR1.out g6 (fun x c => by injection c with c; omega), ⟨[], vl_lf w6 0 0 0 em, by simp⟩, wf_lf 0 0 0 em (by omega) (by omega) (by omega) (by decide), .inl ⟨he, rfl, rfl⟩⟩
  clear b6 g6
  go_wp2
  refine bodyPost_ret (res_row rfl _ g4 48 _ _ rfl HB6.out Tryz.underlying48 rfl s25) rfl ?_
  exact ⟨lf 0 0 0 em, none, 0, none, 0, l, err, rfl, HQ.out⟩
 subst he
 go_wp2_with (refine st_one rfl 3 (.tmp 19) (.const (.int .i64 9)) rfl r 1 117 _ (.int .i64 9) rfl rfl rfl rfl (by simp) HBk.out s3 ?_)
 intro w2 b2 g2
 have HR2 : Hid (Ro2 w0 r W w2 l 9) := HR1.out.trans ⟨HR1.out.rq.same (a := a) (c := c) b2 g2 HX.out.1 HX.out.2.1 HX.out.2.2.1 HX.out.2.2.2 HR1.out.rq.oct HR1.out.rq.len, g2⟩
 have HB42 : Hid (Blk w2 g4 48 zer) := HB4.out.kept g2 (by intro c; injection c with c; omega)
 clear b2 g2 c1
 go_wp2_with (refine st_all rfl 48 (.tmp 4) (.tmp 20) rfl g4 48 zer zer rfl rfl HB42.out rfl s25 (by simp [zer, Value.oneCell']) ?_)
 intro w6 b6 g6
 have HB6 : Hid (Blk w6 g4 48 zer) := b6
 have HQ : Hid (Qo (rdV 0) w0 r W w6 l 0 (lf 0 0 0 em) none 0 none 0 l 9) := ⟨ro2_grown HR2.out g6 (fun x c => by injection c with c; omega), ⟨[], vl_lf w6 0 0 0 em, by simp⟩, wf_lf 0 0 0 em (by omega) (by omega) (by omega) (by decide), .inr ⟨rfl, .inr ⟨9, rfl, rfl, by decide⟩⟩⟩
 clear b6 g6
 go_wp2
 refine bodyPost_ret (res_row rfl _ g4 48 _ _ rfl HB6.out Tryz.underlying48 rfl s25) rfl ?_
 exact ⟨lf 0 0 0 em, none, 0, none, 0, l, 9, rfl, HQ.out⟩
theorem qval_step (d : Nat) (dp : Int) (hdp : 0 <= dp) (hdp2 : dp <= 16) (VC : Hid (QvC d (dp + 1))) : QvC (d + 1) dp := by
 intro w0 W r l err hR hw
 obtain ⟨a0, k0, hb0, hx0⟩ := hR.ex
 have HR : Hid (Rq w0 r W l err) := hR
 have hrW : r < W.heap.size := hb0.lt
 clear hb0 hx0 hR
 go_enter Tryz.func67, Tryz.ntmps67
 go_wp2_with (refine al_zero rfl 48 rfl zer z25 ?_)
 intro g4 w1 hg4 B4 gr4
 have G1 : Hid (Below W.heap.size W w1) := (Below.refl _ _).grown gr4 (Nat.le_refl _) (fun k e => by cases e)
 have HB4 : Hid (Blk w1 g4 48 zer) := B4
 have HR1 : Hid (Ro2 w0 r W w1 l err) := ⟨HR.out.keep (by simp) gr4 (fun x c => by cases c), ⟨G1.out.os, G1.out.tape, G1.out.output, G1.out.size, fun x hx _ => G1.out.block x hx⟩⟩
 obtain ⟨a, c, hb, hx⟩ := HR1.out.rq.ex
 have HBk : Hid (Blk w1 r 117 [.slice a l.length c, .int .i64 err]) := hb
 have HX : Hid (Byt w0 a l /\ (a = none -> c = 0) /\ l.length <= c /\ c <= 9223372036854775807) := hx
 have c1 : w1.cell? ⟨r, 1, none⟩ = some (.int .i64 err) := hb.cell 1
 have h4s : g4 < w1.heap.size := B4.lt
 clear B4 gr4 hb hx HR G1
 by_cases he : err = 0
 case neg =>
  have h2 : (err != 0) = true := by simpa using he
  go_wp2_with (refine st_all rfl 48 (.tmp 4) (.tmp 14) rfl g4 48 zer zer rfl rfl HB4.out rfl s25 (by simp [zer, Value.oneCell']) ?_)
  intro w6 b6 g6
  have HB6 : Hid (Blk w6 g4 48 zer) := b6
  have HQ : Hid (Qo (rdV (d + 1)) w0 r W w6 l err (lf 0 0 0 em) none 0 none 0 l err) := ⟨ro2_grown HR1.out g6 (fun x c => by injection c with c; omega), ⟨[], vl_lf w6 0 0 0 em, by simp⟩, wf_lf 0 0 0 em (by omega) (by omega) (by omega) (by decide), .inl ⟨he, rfl, rfl⟩⟩
  clear b6 g6
  go_wp2
  refine bodyPost_ret (res_row rfl _ g4 48 _ _ rfl HB6.out Tryz.underlying48 rfl s25) rfl ?_
  exact ⟨lf 0 0 0 em, none, 0, none, 0, l, err, rfl, HQ.out⟩
 subst he
 have hdb : decide ((16 : Int) < dp) = false := decide_eq_false (by omega)
 have KO := qone_any w0 w1 r l 0 HR1.out.rq
 go_wp2_with fail
 refine KO.mono ?_
 clear KO c1
 rintro e w2 ⟨x, l1, e1, rfl, hx, hx0, H2⟩
 have hcv : IntKind.i64.wrap (x : Int) = (x : Int) := by rw [IntKind.wrap_i64]; omega
 go_wp2_with (refine al_zero rfl 48 rfl zer z25 ?_)
 intro g5 w3 hg5 B5 gr5
 go_wp2_with (refine st_all rfl 48 (.tmp 5) (.tmp 24) rfl g5 48 zer [.int .i64 (x : Int), .int .i64 0, .int .i64 0, .string ⟨#[]⟩, .slice none 0 0, .slice none 0 0] rfl rfl B5 rfl s25 (by simp [Value.oneCell']) ?_)
 intro w4 B5' gr5'
 have G4 : Hid (Below w2.heap.size w2 w4) := below_new gr5 hg5 gr5'
 have HF : Hid (Qf w0 r W w4 g4 g5 [.int .i64 (x : Int), .int .i64 0, .int .i64 0, .string ⟨#[]⟩, .slice none 0 0, .slice none 0 0] l1 e1) := by
  have hs2 := H2.out.2.1.size
  have b4 : Blk w2 g4 48 zer := HB4.out.kept H2.out.2.1 (by intro c; injection c with c; omega)
  exact ⟨(HR1.out.trans ⟨H2.out.1, H2.out.2.1⟩).then G4.out, b4.below G4.out b4.lt, B5', hrW, hg4, by omega, hw⟩
 have HS1 : Hid (Sq byR l 0 l1 e1 x) := H2.out.2.2
 clear G4 H2 B5 B5' gr5 gr5' HBk HX HR1 HB4 hx0
 obtain ⟨a1, k1, hb1, hx1⟩ := HF.out.ro.rq.ex
 have HBk : Hid (Blk w4 r 117 [.slice a1 l1.length k1, .int .i64 e1]) := hb1
 have HX : Hid (Byt w0 a1 l1 /\ (a1 = none -> k1 = 0) /\ l1.length <= k1 /\ k1 <= 9223372036854775807) := hx1
 have c1 : w4.cell? ⟨r, 1, none⟩ = some (.int .i64 e1) := hb1.cell 1
 have c5 : w4.cell? ⟨g5, 0, none⟩ = some (.int .i64 (x : Int)) := HF.out.b5.cell 0
 clear hb1 hx1
 by_cases he1 : e1 = 0
 case neg =>
  have h2 : (e1 != 0) = true := by simpa using he1
  go_wp2_with (refine st_all rfl 48 (.tmp 4) (.tmp 30) rfl g4 48 zer zer rfl rfl HF.out.b4 rfl s25 (by simp [zer, Value.oneCell']) ?_)
  intro w6 b6 g6
  have HB6 : Hid (Blk w6 g4 48 zer) := b6
  have HQ : Hid (Qo (rdV (d + 1)) w0 r W w6 l 0 (lf 0 0 0 em) none 0 none 0 l1 e1) := ⟨HF.out.res g6, ⟨[], vl_lf w6 0 0 0 em, by simp⟩, wf_lf 0 0 0 em (by omega) (by omega) (by omega) (by decide), sq_bind HS1.out (.inl ⟨he1, rfl, rfl⟩)⟩
  clear b6 g6
  go_wp2
  refine bodyPost_ret (res_row rfl _ g4 48 _ _ rfl HB6.out Tryz.underlying48 rfl s25) rfl ?_
  exact ⟨lf 0 0 0 em, none, 0, none, 0, l1, e1, rfl, HQ.out⟩
 subst he1
 by_cases k1x : x = 1
 . subst k1x
   have HF2 : Hid (Qf w0 r W w4 g4 g5 [.int .i64 1, .int .i64 0, .int .i64 0, .string ⟨#[]⟩, .slice none 0 0, .slice none 0 0] l1 0) := HF.out
   clear HF
   have HF : Hid (Qf w0 r W w4 g4 g5 [.int .i64 1, .int .i64 0, .int .i64 0, .string ⟨#[]⟩, .slice none 0 0, .slice none 0 0] l1 0) := HF2.out
   clear HF2
   have HWF : Hid (WfV (lf 1 0 0 ⟨#[]⟩)) := wf_lf 1 0 0 ⟨#[]⟩ (by omega) (by omega) (by omega) (by decide)
   have HSQ : Hid (Sq (rdV (d + 1)) l 0 l1 0 (lf 1 0 0 ⟨#[]⟩)) := sq_bind HS1.out (sq_ret _ l1 0)
   clear c5
   have t0 : w4.cell? ⟨g5, 0, none⟩ = some (.int .i64 1) := HF.out.b5.cell 0
   have t1 : w4.cell? ⟨g5, 1, none⟩ = some (.int .i64 0) := HF.out.b5.cell 1
   have t2 : w4.cell? ⟨g5, 2, none⟩ = some (.int .i64 0) := HF.out.b5.cell 2
   have t3 : w4.cell? ⟨g5, 3, none⟩ = some (.string ⟨#[]⟩) := HF.out.b5.cell 3
   have t4 : w4.cell? ⟨g5, 4, none⟩ = some (.slice none 0 0) := HF.out.b5.cell 4
   have t5 : w4.cell? ⟨g5, 5, none⟩ = some (.slice none 0 0) := HF.out.b5.cell 5
   go_wp2_with (refine st_all rfl 48 (.tmp 4) (.tmp 112) rfl g4 48 zer [.int .i64 1, .int .i64 0, .int .i64 0, .string ⟨#[]⟩, .slice none 0 0, .slice none 0 0] rfl rfl HF.out.b4 rfl s25 (by simp [Value.oneCell']) ?_)
   intro w9 b9 g9
   have HB9 : Hid (Blk w9 g4 48 [.int .i64 1, .int .i64 0, .int .i64 0, .string ⟨#[]⟩, .slice none 0 0, .slice none 0 0]) := b9
   have HQ : Hid (Qo (rdV (d + 1)) w0 r W w9 l 0 (lf 1 0 0 ⟨#[]⟩) none 0 none 0 l1 0) := ⟨HF.out.res g9, ⟨[], vl_lf w9 1 0 0 ⟨#[]⟩, by simp⟩, HWF.out, HSQ.out⟩
   clear b9 g9 t0 t1 t2 t3 t4 t5
   go_wp2
   refine bodyPost_ret (res_row rfl _ g4 48 _ _ rfl HB9.out Tryz.underlying48 rfl s25) rfl ?_
   exact ⟨(lf 1 0 0 ⟨#[]⟩), none, 0, none, 0, l1, 0, rfl, HQ.out⟩
 by_cases k2x : x = 2
 . subst k2x
   have HF2 : Hid (Qf w0 r W w4 g4 g5 [.int .i64 2, .int .i64 0, .int .i64 0, .string ⟨#[]⟩, .slice none 0 0, .slice none 0 0] l1 0) := HF.out
   clear HF
   go_wp2_with fail
   refine (qone_any w0 w4 r l1 0 HF2.out.ro.rq).mono ?_
   rintro e w5 ⟨y, l2, e2, rfl, hy, hy0, H2⟩
   have HF5 : Hid (Qf w0 r W w5 g4 g5 [.int .i64 2, .int .i64 0, .int .i64 0, .string ⟨#[]⟩, .slice none 0 0, .slice none 0 0] l2 e2) := HF2.out.prim ⟨H2.out.1, H2.out.2.1⟩
   have HS2 : Hid (Sq byR l1 0 l2 e2 y) := H2.out.2.2
   have hcy : IntKind.i64.wrap (y : Int) = (y : Int) := by rw [IntKind.wrap_i64]; omega
   have HWF : Hid (WfV (lf 2 (y : Int) 0 ⟨#[]⟩)) := wf_lf 2 (y : Int) 0 ⟨#[]⟩ (by omega) (by omega) (by omega) (by decide)
   clear H2 HF2 c5 c1
   by_cases hy1 : 1 < y
   . have hyb : decide ((1 : Int) < (y : Int)) = true := decide_eq_true (by omega)
     have he2 : e2 = 0 := by
      rcases Classical.em (e2 = 0) with h | h
      . exact h
      . have := hy0 h
        omega
     subst he2
     obtain ⟨a2, k2, hb2, hx2⟩ := HF5.out.ro.rq.ex
     have HBk2 : Hid (Blk w5 r 117 [.slice a2 l2.length k2, .int .i64 0]) := hb2
     have HX2 : Hid (Byt w0 a2 l2 /\ (a2 = none -> k2 = 0) /\ l2.length <= k2 /\ k2 <= 9223372036854775807) := hx2
     clear hb2 hx2 hy0
     go_wp2_with (refine st_one rfl 3 (.tmp 46) (.const (.int .i64 3)) rfl r 1 117 _ (.int .i64 3) rfl rfl rfl rfl (by simp) HBk2.out s3 ?_)
     intro w6 b6 gr6
     have HF6 : Hid (Qf w0 r W w6 g4 g5 [.int .i64 2, .int .i64 0, .int .i64 0, .string ⟨#[]⟩, .slice none 0 0, .slice none 0 0] l2 3) := HF5.out.fail HX2.out b6 gr6
     clear b6 gr6 HF5
     go_wp2_with (refine st_one rfl 3 (.tmp 49) (.tmp 48) rfl g5 1 48 _ (.int .i64 (y : Int)) rfl rfl rfl rfl (by simp) HF6.out.b5 s3 ?_)
     intro w7 b7 gr7
     have HF : Hid (Qf w0 r W w7 g4 g5 [.int .i64 2, .int .i64 (y : Int), .int .i64 0, .string ⟨#[]⟩, .slice none 0 0, .slice none 0 0] l2 3) := HF6.out.put b7 gr7
     clear b7 gr7 HF6
     have HSQ : Hid (Sq (rdV (d + 1)) l 0 l2 3 (lf 2 (y : Int) 0 ⟨#[]⟩)) := by
      refine sq_bind HS1.out (sq_bind (f := byR) (g := fun x : Nat => if 1 < x then Rdr.no 3 else Rdr.ret (lf 2 x 0 em)) HS2.out ?_)
      rw [if_pos hy1]
      exact .inr ⟨rfl, .inr ⟨3, rfl, rfl, by decide⟩⟩
     have t0 : w7.cell? ⟨g5, 0, none⟩ = some (.int .i64 2) := HF.out.b5.cell 0
     have t1 : w7.cell? ⟨g5, 1, none⟩ = some (.int .i64 (y : Int)) := HF.out.b5.cell 1
     have t2 : w7.cell? ⟨g5, 2, none⟩ = some (.int .i64 0) := HF.out.b5.cell 2
     have t3 : w7.cell? ⟨g5, 3, none⟩ = some (.string ⟨#[]⟩) := HF.out.b5.cell 3
     have t4 : w7.cell? ⟨g5, 4, none⟩ = some (.slice none 0 0) := HF.out.b5.cell 4
     have t5 : w7.cell? ⟨g5, 5, none⟩ = some (.slice none 0 0) := HF.out.b5.cell 5
     go_wp2_with (refine st_all rfl 48 (.tmp 4) (.tmp 112) rfl g4 48 zer [.int .i64 2, .int .i64 (y : Int), .int .i64 0, .string ⟨#[]⟩, .slice none 0 0, .slice none 0 0] rfl rfl HF.out.b4 rfl s25 (by simp [Value.oneCell']) ?_)
     intro w9 b9 g9
     have HB9 : Hid (Blk w9 g4 48 [.int .i64 2, .int .i64 (y : Int), .int .i64 0, .string ⟨#[]⟩, .slice none 0 0, .slice none 0 0]) := b9
     have HQ : Hid (Qo (rdV (d + 1)) w0 r W w9 l 0 (lf 2 (y : Int) 0 ⟨#[]⟩) none 0 none 0 l2 3) := ⟨HF.out.res g9, ⟨[], vl_lf w9 2 (y : Int) 0 ⟨#[]⟩, by simp⟩, HWF.out, HSQ.out⟩
     clear b9 g9 t0 t1 t2 t3 t4 t5
     go_wp2
     refine bodyPost_ret (res_row rfl _ g4 48 _ _ rfl HB9.out Tryz.underlying48 rfl s25) rfl ?_
     exact ⟨(lf 2 (y : Int) 0 ⟨#[]⟩), none, 0, none, 0, l2, 3, rfl, HQ.out⟩
   . have hyb : decide ((1 : Int) < (y : Int)) = false := decide_eq_false (by omega)
     clear hy0
     go_wp2_with (refine st_one rfl 3 (.tmp 49) (.tmp 48) rfl g5 1 48 _ (.int .i64 (y : Int)) rfl rfl rfl rfl (by simp) HF5.out.b5 s3 ?_)
     intro w7 b7 gr7
     have HF : Hid (Qf w0 r W w7 g4 g5 [.int .i64 2, .int .i64 (y : Int), .int .i64 0, .string ⟨#[]⟩, .slice none 0 0, .slice none 0 0] l2 e2) := HF5.out.put b7 gr7
     clear b7 gr7 HF5
     have HSQ : Hid (Sq (rdV (d + 1)) l 0 l2 e2 (lf 2 (y : Int) 0 ⟨#[]⟩)) := by
      refine sq_bind HS1.out (sq_bind (f := byR) (g := fun x : Nat => if 1 < x then Rdr.no 3 else Rdr.ret (lf 2 x 0 em)) HS2.out ?_)
      rw [if_neg hy1]
      exact sq_ret _ l2 e2
     have t0 : w7.cell? ⟨g5, 0, none⟩ = some (.int .i64 2) := HF.out.b5.cell 0
     have t1 : w7.cell? ⟨g5, 1, none⟩ = some (.int .i64 (y : Int)) := HF.out.b5.cell 1
     have t2 : w7.cell? ⟨g5, 2, none⟩ = some (.int .i64 0) := HF.out.b5.cell 2
     have t3 : w7.cell? ⟨g5, 3, none⟩ = some (.string ⟨#[]⟩) := HF.out.b5.cell 3
     have t4 : w7.cell? ⟨g5, 4, none⟩ = some (.slice none 0 0) := HF.out.b5.cell 4
     have t5 : w7.cell? ⟨g5, 5, none⟩ = some (.slice none 0 0) := HF.out.b5.cell 5
     go_wp2_with (refine st_all rfl 48 (.tmp 4) (.tmp 112) rfl g4 48 zer [.int .i64 2, .int .i64 (y : Int), .int .i64 0, .string ⟨#[]⟩, .slice none 0 0, .slice none 0 0] rfl rfl HF.out.b4 rfl s25 (by simp [Value.oneCell']) ?_)
     intro w9 b9 g9
     have HB9 : Hid (Blk w9 g4 48 [.int .i64 2, .int .i64 (y : Int), .int .i64 0, .string ⟨#[]⟩, .slice none 0 0, .slice none 0 0]) := b9
     have HQ : Hid (Qo (rdV (d + 1)) w0 r W w9 l 0 (lf 2 (y : Int) 0 ⟨#[]⟩) none 0 none 0 l2 e2) := ⟨HF.out.res g9, ⟨[], vl_lf w9 2 (y : Int) 0 ⟨#[]⟩, by simp⟩, HWF.out, HSQ.out⟩
     clear b9 g9 t0 t1 t2 t3 t4 t5
     go_wp2
     refine bodyPost_ret (res_row rfl _ g4 48 _ _ rfl HB9.out Tryz.underlying48 rfl s25) rfl ?_
     exact ⟨(lf 2 (y : Int) 0 ⟨#[]⟩), none, 0, none, 0, l2, e2, rfl, HQ.out⟩
 by_cases k3x : x = 3
 . subst k3x
   have HF2 : Hid (Qf w0 r W w4 g4 g5 [.int .i64 3, .int .i64 0, .int .i64 0, .string ⟨#[]⟩, .slice none 0 0, .slice none 0 0] l1 0) := HF.out
   clear HF
   go_wp2_with fail
   refine (qnum_any w0 w4 r l1 0 HF2.out.ro.rq).mono ?_
   rintro e w5 ⟨u, l2, e2, rfl, hu, _, H2⟩
   have HF5 : Hid (Qf w0 r W w5 g4 g5 [.int .i64 3, .int .i64 0, .int .i64 0, .string ⟨#[]⟩, .slice none 0 0, .slice none 0 0] l2 e2) := HF2.out.prim ⟨H2.out.1, H2.out.2.1⟩
   have HS2 : Hid (Sq uvR l1 0 l2 e2 u) := H2.out.2.2
   clear H2 HF2 c5 c1
   have KZ := zagr_any (u : Int) (by omega) (by omega) w5
   obtain ⟨zz, HZZ⟩ : ∃ zz, Hid (zagS (u : Int) = zz) := ⟨_, rfl⟩
   rw [HZZ.out] at KZ
   go_wp2_with fail
   refine KZ.mono ?_
   clear KZ
   rintro e w5x ⟨rfl, hw5⟩
   obtain rfl : w5 = w5x := hw5.symm
   clear hw5
   go_wp2_with (refine st_one rfl 3 (.tmp 56) (.tmp 55) rfl g5 1 48 _ (.int .i64 zz) rfl rfl rfl rfl (by simp) HF5.out.b5 s3 ?_)
   intro w6 b6 gr6
   have HF6 : Hid (Qf w0 r W w6 g4 g5 [.int .i64 3, .int .i64 zz, .int .i64 0, .string ⟨#[]⟩, .slice none 0 0, .slice none 0 0] l2 e2) := HF5.out.put b6 gr6
   clear b6 gr6 HF5
   have hzb := zag_nat hu
   have HF : Hid (Qf w0 r W w6 g4 g5 [.int .i64 3, .int .i64 zz, .int .i64 0, .string ⟨#[]⟩, .slice none 0 0, .slice none 0 0] l2 e2) := HF6.out
   clear HF6
   have HWF : Hid (WfV (lf 3 zz 0 ⟨#[]⟩)) := by rw [<- HZZ.out]; exact wf_lf 3 _ 0 ⟨#[]⟩ (by omega) ⟨hzb.1, hzb.2.1⟩ (by omega) (by decide)
   have HSQ : Hid (Sq (rdV (d + 1)) l 0 l2 e2 (lf 3 zz 0 ⟨#[]⟩)) := by rw [<- HZZ.out]; exact sq_bind HS1.out (sq_map HS2.out fun u : Nat => lf 3 (zagS u) 0 em)
   have t0 : w6.cell? ⟨g5, 0, none⟩ = some (.int .i64 3) := HF.out.b5.cell 0
   have t1 : w6.cell? ⟨g5, 1, none⟩ = some (.int .i64 zz) := HF.out.b5.cell 1
   have t2 : w6.cell? ⟨g5, 2, none⟩ = some (.int .i64 0) := HF.out.b5.cell 2
   have t3 : w6.cell? ⟨g5, 3, none⟩ = some (.string ⟨#[]⟩) := HF.out.b5.cell 3
   have t4 : w6.cell? ⟨g5, 4, none⟩ = some (.slice none 0 0) := HF.out.b5.cell 4
   have t5 : w6.cell? ⟨g5, 5, none⟩ = some (.slice none 0 0) := HF.out.b5.cell 5
   go_wp2_with (refine st_all rfl 48 (.tmp 4) (.tmp 112) rfl g4 48 zer [.int .i64 3, .int .i64 zz, .int .i64 0, .string ⟨#[]⟩, .slice none 0 0, .slice none 0 0] rfl rfl HF.out.b4 rfl s25 (by simp [Value.oneCell']) ?_)
   intro w9 b9 g9
   have HB9 : Hid (Blk w9 g4 48 [.int .i64 3, .int .i64 zz, .int .i64 0, .string ⟨#[]⟩, .slice none 0 0, .slice none 0 0]) := b9
   have HQ : Hid (Qo (rdV (d + 1)) w0 r W w9 l 0 (lf 3 zz 0 ⟨#[]⟩) none 0 none 0 l2 e2) := ⟨HF.out.res g9, ⟨[], vl_lf w9 3 zz 0 ⟨#[]⟩, by simp⟩, HWF.out, HSQ.out⟩
   clear b9 g9 t0 t1 t2 t3 t4 t5
   go_wp2
   refine bodyPost_ret (res_row rfl _ g4 48 _ _ rfl HB9.out Tryz.underlying48 rfl s25) rfl ?_
   exact ⟨(lf 3 zz 0 ⟨#[]⟩), none, 0, none, 0, l2, e2, rfl, HQ.out⟩
 by_cases k4x : x = 4
 . subst k4x
   have HF2 : Hid (Qf w0 r W w4 g4 g5 [.int .i64 4, .int .i64 0, .int .i64 0, .string ⟨#[]⟩, .slice none 0 0, .slice none 0 0] l1 0) := HF.out
   clear HF
   go_wp2_with fail
   refine (qnum_any w0 w4 r l1 0 HF2.out.ro.rq).mono ?_
   rintro e w5 ⟨u, l2, e2, rfl, hu, _, H2⟩
   have HF5 : Hid (Qf w0 r W w5 g4 g5 [.int .i64 4, .int .i64 0, .int .i64 0, .string ⟨#[]⟩, .slice none 0 0, .slice none 0 0] l2 e2) := HF2.out.prim ⟨H2.out.1, H2.out.2.1⟩
   have HS2 : Hid (Sq uvR l1 0 l2 e2 u) := H2.out.2.2
   clear H2 HF2 c5 c1
   have KZ := zagr_any (u : Int) (by omega) (by omega) w5
   obtain ⟨zz, HZZ⟩ : ∃ zz, Hid (zagS (u : Int) = zz) := ⟨_, rfl⟩
   rw [HZZ.out] at KZ
   go_wp2_with fail
   refine KZ.mono ?_
   clear KZ
   rintro e w5x ⟨rfl, hw5⟩
   obtain rfl : w5 = w5x := hw5.symm
   clear hw5
   go_wp2_with (refine st_one rfl 3 (.tmp 56) (.tmp 55) rfl g5 1 48 _ (.int .i64 zz) rfl rfl rfl rfl (by simp) HF5.out.b5 s3 ?_)
   intro w6 b6 gr6
   have HF6 : Hid (Qf w0 r W w6 g4 g5 [.int .i64 4, .int .i64 zz, .int .i64 0, .string ⟨#[]⟩, .slice none 0 0, .slice none 0 0] l2 e2) := HF5.out.put b6 gr6
   clear b6 gr6 HF5
   have hzb := zag_nat hu
   have c5 : w6.cell? ⟨g5, 0, none⟩ = some (.int .i64 4) := HF6.out.b5.cell 0
   go_wp2_with fail
   refine (qone_any w0 w6 r l2 e2 HF6.out.ro.rq).mono ?_
   rintro e w7 ⟨y, l3, e3, rfl, hy, _, H3⟩
   have HF7 : Hid (Qf w0 r W w7 g4 g5 [.int .i64 4, .int .i64 zz, .int .i64 0, .string ⟨#[]⟩, .slice none 0 0, .slice none 0 0] l3 e3) := HF6.out.prim ⟨H3.out.1, H3.out.2.1⟩
   have HS3 : Hid (Sq byR l2 e2 l3 e3 y) := H3.out.2.2
   have hcy : IntKind.i64.wrap (y : Int) = (y : Int) := by rw [IntKind.wrap_i64]; omega
   clear H3 HF6 c5
   go_wp2_with (refine st_one rfl 3 (.tmp 63) (.tmp 62) rfl g5 2 48 _ (.int .i64 (y : Int)) rfl rfl rfl rfl (by simp) HF7.out.b5 s3 ?_)
   intro w8 b8 gr8
   have HF : Hid (Qf w0 r W w8 g4 g5 [.int .i64 4, .int .i64 zz, .int .i64 (y : Int), .string ⟨#[]⟩, .slice none 0 0, .slice none 0 0] l3 e3) := HF7.out.put b8 gr8
   clear b8 gr8 HF7
   have HWF : Hid (WfV (lf 4 zz (y : Int) ⟨#[]⟩)) := by rw [<- HZZ.out]; exact wf_lf 4 _ (y : Int) ⟨#[]⟩ (by omega) ⟨hzb.1, hzb.2.1⟩ (by omega) (by decide)
   have HSQ : Hid (Sq (rdV (d + 1)) l 0 l3 e3 (lf 4 zz (y : Int) ⟨#[]⟩)) := by rw [<- HZZ.out]; exact sq_bind HS1.out (sq_bind (g := fun u : Nat => byR.bind fun x : Nat => .ret (lf 4 (zagS u) x em)) HS2.out (sq_map HS3.out fun x : Nat => lf 4 (zagS (u : Int)) x em))
   have t0 : w8.cell? ⟨g5, 0, none⟩ = some (.int .i64 4) := HF.out.b5.cell 0
   have t1 : w8.cell? ⟨g5, 1, none⟩ = some (.int .i64 zz) := HF.out.b5.cell 1
   have t2 : w8.cell? ⟨g5, 2, none⟩ = some (.int .i64 (y : Int)) := HF.out.b5.cell 2
   have t3 : w8.cell? ⟨g5, 3, none⟩ = some (.string ⟨#[]⟩) := HF.out.b5.cell 3
   have t4 : w8.cell? ⟨g5, 4, none⟩ = some (.slice none 0 0) := HF.out.b5.cell 4
   have t5 : w8.cell? ⟨g5, 5, none⟩ = some (.slice none 0 0) := HF.out.b5.cell 5
   go_wp2_with (refine st_all rfl 48 (.tmp 4) (.tmp 112) rfl g4 48 zer [.int .i64 4, .int .i64 zz, .int .i64 (y : Int), .string ⟨#[]⟩, .slice none 0 0, .slice none 0 0] rfl rfl HF.out.b4 rfl s25 (by simp [Value.oneCell']) ?_)
   intro w9 b9 g9
   have HB9 : Hid (Blk w9 g4 48 [.int .i64 4, .int .i64 zz, .int .i64 (y : Int), .string ⟨#[]⟩, .slice none 0 0, .slice none 0 0]) := b9
   have HQ : Hid (Qo (rdV (d + 1)) w0 r W w9 l 0 (lf 4 zz (y : Int) ⟨#[]⟩) none 0 none 0 l3 e3) := ⟨HF.out.res g9, ⟨[], vl_lf w9 4 zz (y : Int) ⟨#[]⟩, by simp⟩, HWF.out, HSQ.out⟩
   clear b9 g9 t0 t1 t2 t3 t4 t5
   go_wp2
   refine bodyPost_ret (res_row rfl _ g4 48 _ _ rfl HB9.out Tryz.underlying48 rfl s25) rfl ?_
   exact ⟨(lf 4 zz (y : Int) ⟨#[]⟩), none, 0, none, 0, l3, e3, rfl, HQ.out⟩
 by_cases k5x : x = 5
 . subst k5x
   have HF2 : Hid (Qf w0 r W w4 g4 g5 [.int .i64 5, .int .i64 0, .int .i64 0, .string ⟨#[]⟩, .slice none 0 0, .slice none 0 0] l1 0) := HF.out
   clear HF
   go_wp2_with fail
   refine (qnum_any w0 w4 r l1 0 HF2.out.ro.rq).mono ?_
   rintro e w5 ⟨u, l2, e2, rfl, hu, _, H2⟩
   have HF5 : Hid (Qf w0 r W w5 g4 g5 [.int .i64 5, .int .i64 0, .int .i64 0, .string ⟨#[]⟩, .slice none 0 0, .slice none 0 0] l2 e2) := HF2.out.prim ⟨H2.out.1, H2.out.2.1⟩
   have HS2 : Hid (Sq uvR l1 0 l2 e2 u) := H2.out.2.2
   clear H2 HF2 c5 c1
   have HWR : Hid (wrap64 (u : Int) = wr64 u) := wr_conv u hu
   go_wp2_with (refine st_one rfl 3 (.tmp 69) (.tmp 68) rfl g5 1 48 _ (.int .i64 (wrap64 (u : Int))) rfl rfl rfl rfl (by simp) HF5.out.b5 s3 ?_)
   intro w6 b6 gr6
   replace b6 : Blk w6 g5 48 [.int .i64 5, .int .i64 (wrap64 (u : Int)), .int .i64 0, .string ⟨#[]⟩, .slice none 0 0, .slice none 0 0] := b6
   rw [HWR.out] at b6
   have HF : Hid (Qf w0 r W w6 g4 g5 [.int .i64 5, .int .i64 (wr64 u), .int .i64 0, .string ⟨#[]⟩, .slice none 0 0, .slice none 0 0] l2 e2) := HF5.out.put b6 gr6
   clear b6 gr6 HF5
   have HWF : Hid (WfV (lf 5 (wr64 u) 0 ⟨#[]⟩)) := wf_lf 5 (wr64 u) 0 ⟨#[]⟩ (by omega) (wr_bd hu) (by omega) (by decide)
   have HSQ : Hid (Sq (rdV (d + 1)) l 0 l2 e2 (lf 5 (wr64 u) 0 ⟨#[]⟩)) := sq_bind HS1.out (sq_map HS2.out fun u : Nat => lf 5 (wr64 u) 0 em)
   have t0 : w6.cell? ⟨g5, 0, none⟩ = some (.int .i64 5) := HF.out.b5.cell 0
   have t1 : w6.cell? ⟨g5, 1, none⟩ = some (.int .i64 (wr64 u)) := HF.out.b5.cell 1
   have t2 : w6.cell? ⟨g5, 2, none⟩ = some (.int .i64 0) := HF.out.b5.cell 2
   have t3 : w6.cell? ⟨g5, 3, none⟩ = some (.string ⟨#[]⟩) := HF.out.b5.cell 3
   have t4 : w6.cell? ⟨g5, 4, none⟩ = some (.slice none 0 0) := HF.out.b5.cell 4
   have t5 : w6.cell? ⟨g5, 5, none⟩ = some (.slice none 0 0) := HF.out.b5.cell 5
   go_wp2_with (refine st_all rfl 48 (.tmp 4) (.tmp 112) rfl g4 48 zer [.int .i64 5, .int .i64 (wr64 u), .int .i64 0, .string ⟨#[]⟩, .slice none 0 0, .slice none 0 0] rfl rfl HF.out.b4 rfl s25 (by simp [Value.oneCell']) ?_)
   intro w9 b9 g9
   have HB9 : Hid (Blk w9 g4 48 [.int .i64 5, .int .i64 (wr64 u), .int .i64 0, .string ⟨#[]⟩, .slice none 0 0, .slice none 0 0]) := b9
   have HQ : Hid (Qo (rdV (d + 1)) w0 r W w9 l 0 (lf 5 (wr64 u) 0 ⟨#[]⟩) none 0 none 0 l2 e2) := ⟨HF.out.res g9, ⟨[], vl_lf w9 5 (wr64 u) 0 ⟨#[]⟩, by simp⟩, HWF.out, HSQ.out⟩
   clear b9 g9 t0 t1 t2 t3 t4 t5
   go_wp2
   refine bodyPost_ret (res_row rfl _ g4 48 _ _ rfl HB9.out Tryz.underlying48 rfl s25) rfl ?_
   exact ⟨(lf 5 (wr64 u) 0 ⟨#[]⟩), none, 0, none, 0, l2, e2, rfl, HQ.out⟩
 by_cases k6x : x = 6
 . subst k6x
   have HF2 : Hid (Qf w0 r W w4 g4 g5 [.int .i64 6, .int .i64 0, .int .i64 0, .string ⟨#[]⟩, .slice none 0 0, .slice none 0 0] l1 0) := HF.out
   clear HF
   go_wp2_with fail
   refine (qtxt_any w0 w4 r l1 0 HF2.out.ro.rq).mono ?_
   rintro e w5 ⟨s, l2, e2, rfl, hs, _, H2⟩
   have HF5 : Hid (Qf w0 r W w5 g4 g5 [.int .i64 6, .int .i64 0, .int .i64 0, .string ⟨#[]⟩, .slice none 0 0, .slice none 0 0] l2 e2) := HF2.out.prim ⟨H2.out.1, H2.out.2.1⟩
   have HS2 : Hid (Sq txR l1 0 l2 e2 s) := H2.out.2.2
   clear H2 HF2 c5 c1
   go_wp2_with (refine st_one rfl 9 (.tmp 75) (.tmp 74) rfl g5 3 48 _ (.string s) rfl rfl rfl rfl (by simp) HF5.out.b5 s9 ?_)
   intro w6 b6 gr6
   have HF : Hid (Qf w0 r W w6 g4 g5 [.int .i64 6, .int .i64 0, .int .i64 0, .string s, .slice none 0 0, .slice none 0 0] l2 e2) := HF5.out.put b6 gr6
   clear b6 gr6 HF5
   have HWF : Hid (WfV (lf 6 0 0 s)) := wf_lf 6 0 0 s (by omega) (by omega) (by omega) hs
   have HSQ : Hid (Sq (rdV (d + 1)) l 0 l2 e2 (lf 6 0 0 s)) := sq_bind HS1.out (sq_map HS2.out fun t => lf 6 0 0 t)
   have t0 : w6.cell? ⟨g5, 0, none⟩ = some (.int .i64 6) := HF.out.b5.cell 0
   have t1 : w6.cell? ⟨g5, 1, none⟩ = some (.int .i64 0) := HF.out.b5.cell 1
   have t2 : w6.cell? ⟨g5, 2, none⟩ = some (.int .i64 0) := HF.out.b5.cell 2
   have t3 : w6.cell? ⟨g5, 3, none⟩ = some (.string s) := HF.out.b5.cell 3
   have t4 : w6.cell? ⟨g5, 4, none⟩ = some (.slice none 0 0) := HF.out.b5.cell 4
   have t5 : w6.cell? ⟨g5, 5, none⟩ = some (.slice none 0 0) := HF.out.b5.cell 5
   go_wp2_with (refine st_all rfl 48 (.tmp 4) (.tmp 112) rfl g4 48 zer [.int .i64 6, .int .i64 0, .int .i64 0, .string s, .slice none 0 0, .slice none 0 0] rfl rfl HF.out.b4 rfl s25 (by simp [Value.oneCell']) ?_)
   intro w9 b9 g9
   have HB9 : Hid (Blk w9 g4 48 [.int .i64 6, .int .i64 0, .int .i64 0, .string s, .slice none 0 0, .slice none 0 0]) := b9
   have HQ : Hid (Qo (rdV (d + 1)) w0 r W w9 l 0 (lf 6 0 0 s) none 0 none 0 l2 e2) := ⟨HF.out.res g9, ⟨[], vl_lf w9 6 0 0 s, by simp⟩, HWF.out, HSQ.out⟩
   clear b9 g9 t0 t1 t2 t3 t4 t5
   go_wp2
   refine bodyPost_ret (res_row rfl _ g4 48 _ _ rfl HB9.out Tryz.underlying48 rfl s25) rfl ?_
   exact ⟨(lf 6 0 0 s), none, 0, none, 0, l2, e2, rfl, HQ.out⟩
 by_cases k7x : x = 7
 . subst k7x
   have HF2 : Hid (Qf w0 r W w4 g4 g5 [.int .i64 7, .int .i64 0, .int .i64 0, .string ⟨#[]⟩, .slice none 0 0, .slice none 0 0] l1 0) := HF.out
   clear HF
   go_wp2_with fail
   refine (qtxt_any w0 w4 r l1 0 HF2.out.ro.rq).mono ?_
   rintro e w5 ⟨s, l2, e2, rfl, hs, _, H2⟩
   have HF5 : Hid (Qf w0 r W w5 g4 g5 [.int .i64 7, .int .i64 0, .int .i64 0, .string ⟨#[]⟩, .slice none 0 0, .slice none 0 0] l2 e2) := HF2.out.prim ⟨H2.out.1, H2.out.2.1⟩
   have HS2 : Hid (Sq txR l1 0 l2 e2 s) := H2.out.2.2
   clear H2 HF2 c5 c1
   go_wp2_with (refine st_one rfl 9 (.tmp 75) (.tmp 74) rfl g5 3 48 _ (.string s) rfl rfl rfl rfl (by simp) HF5.out.b5 s9 ?_)
   intro w6 b6 gr6
   have HF : Hid (Qf w0 r W w6 g4 g5 [.int .i64 7, .int .i64 0, .int .i64 0, .string s, .slice none 0 0, .slice none 0 0] l2 e2) := HF5.out.put b6 gr6
   clear b6 gr6 HF5
   have HWF : Hid (WfV (lf 7 0 0 s)) := wf_lf 7 0 0 s (by omega) (by omega) (by omega) hs
   have HSQ : Hid (Sq (rdV (d + 1)) l 0 l2 e2 (lf 7 0 0 s)) := sq_bind HS1.out (sq_map HS2.out fun t => lf 7 0 0 t)
   have t0 : w6.cell? ⟨g5, 0, none⟩ = some (.int .i64 7) := HF.out.b5.cell 0
   have t1 : w6.cell? ⟨g5, 1, none⟩ = some (.int .i64 0) := HF.out.b5.cell 1
   have t2 : w6.cell? ⟨g5, 2, none⟩ = some (.int .i64 0) := HF.out.b5.cell 2
   have t3 : w6.cell? ⟨g5, 3, none⟩ = some (.string s) := HF.out.b5.cell 3
   have t4 : w6.cell? ⟨g5, 4, none⟩ = some (.slice none 0 0) := HF.out.b5.cell 4
   have t5 : w6.cell? ⟨g5, 5, none⟩ = some (.slice none 0 0) := HF.out.b5.cell 5
   go_wp2_with (refine st_all rfl 48 (.tmp 4) (.tmp 112) rfl g4 48 zer [.int .i64 7, .int .i64 0, .int .i64 0, .string s, .slice none 0 0, .slice none 0 0] rfl rfl HF.out.b4 rfl s25 (by simp [Value.oneCell']) ?_)
   intro w9 b9 g9
   have HB9 : Hid (Blk w9 g4 48 [.int .i64 7, .int .i64 0, .int .i64 0, .string s, .slice none 0 0, .slice none 0 0]) := b9
   have HQ : Hid (Qo (rdV (d + 1)) w0 r W w9 l 0 (lf 7 0 0 s) none 0 none 0 l2 e2) := ⟨HF.out.res g9, ⟨[], vl_lf w9 7 0 0 s, by simp⟩, HWF.out, HSQ.out⟩
   clear b9 g9 t0 t1 t2 t3 t4 t5
   go_wp2
   refine bodyPost_ret (res_row rfl _ g4 48 _ _ rfl HB9.out Tryz.underlying48 rfl s25) rfl ?_
   exact ⟨(lf 7 0 0 s), none, 0, none, 0, l2, e2, rfl, HQ.out⟩
 by_cases k8x : x = 8
 . subst k8x
   have HF2 : Hid (Qf w0 r W w4 g4 g5 [.int .i64 8, .int .i64 0, .int .i64 0, .string ⟨#[]⟩, .slice none 0 0, .slice none 0 0] l1 0) := HF.out
   clear HF HBk HX
   have HOd : Hid (Od W r g4 g5 w4.heap.size) := ⟨hrW, hg4, HF2.out.l45, HF2.out.b5.lt⟩
   have HI0 : Hid (NJ w4.heap.size g4 g5 r w0 W 8 w4 l1 0 [] .nil (.slice none 0 0) (.slice none 0 0) [] []) :=
    ⟨HF2.out.ro, HF2.out.b4, HF2.out.b5, World.ownsRow_nil _ _ _ _, World.ownsRow_nil _ _ _ _, ⟨rfl, rfl⟩, fun x hx => by simp at hx, fun x c => by simp [Value.ownBlock] at c, Nat.le_refl _, hw⟩
   clear HF2
   go_wp2_with fail
   refine (qcnt_any w0 w4 r l1 0 HI0.out.ro.rq).mono ?_
   rintro e w5 ⟨n, l2, e2, rfl, hn, hz, H2⟩
   have HI4 : Hid (NJ w4.heap.size g4 g5 r w0 W 8 w5 l2 e2 [] .nil (.slice none 0 0) (.slice none 0 0) [] []) := HI0.out.read HOd.out ⟨H2.out.1, H2.out.2.1⟩
   have HL : Hid (Sq lenR l1 0 l2 e2 n) := H2.out.2.2
   clear H2 HI0 hz c5 c1
   go_wp2
   go_loopw [8] (fun iv wr => ∃ (m : Nat) (lx : List Nat) (e : Int) (ns : List ByteArray) (f : Fo) (vn vk : Value) (cs : List Value) (Lf : List Nat), m <= n /\ iv = .int .i64 (m : Int) /\ Hid ((NJ w4.heap.size g4 g5 r w0 W 8 wr lx e ns f vn vk cs Lf) /\ Sq (rdN (fun l => rdV d l) false m) l2 e2 lx e (f, ns) /\ Wf f /\ f.list.length = m /\ (∀ x ∈ ns, x.size <= 65536) /\ ns.length <= m)) (fun iv _ => n - (intOf iv).toNat)
   case atStart => exact ⟨0, l2, e2, [], .nil, _, _, [], [], by omega, rfl, HI4.out, sq_ret _ l2 e2, trivial, rfl, (by simp), (by simp)⟩
   case round =>
    clear HI4
    obtain ⟨m, lx, e, ns, f, vn, vk, cs, Lf, hm, rfl, HJ⟩ := hrel
    obtain ⟨hNJ, hSq, hwf, hfl, hsz, hnl⟩ := HJ.out
    have HN : Hid (NJ w4.heap.size g4 g5 r w0 W 8 wr lx e ns f vn vk cs Lf) := hNJ
    have HS : Hid (Sq (rdN (fun l => rdV d l) false m) l2 e2 lx e (f, ns)) := hSq
    have HW : Hid (Wf f /\ (∀ x ∈ ns, x.size <= 65536) /\ ns.length <= m) := ⟨hwf, hsz, hnl⟩
    obtain ⟨a3, k3, hb3, hx3⟩ := hNJ.ro.rq.ex
    have c1 : wr.cell? ⟨r, 1, none⟩ = some (.int .i64 e) := hb3.cell 1
    clear hNJ hSq hwf hsz HJ hb3 hx3
    by_cases hgo : m < n /\ e = 0
    case neg =>
     obtain ⟨na, nc, ka, kc, Lp, rfl, rfl, hvl, hrg⟩ := HN.out.val
     have HV : Hid (VlL wr (nst 8 (f, ns)) na nc ka kc Lp /\ ∀ x ∈ Lp, w4.heap.size <= x /\ x < wr.heap.size) := ⟨hvl, hrg⟩
     have HWf : Hid (WfV (nst 8 (f, ns))) := ⟨⟨by show (-9223372036854775808 : Int) <= 8; omega, by show (8 : Int) < 9223372036854775808; omega, by show (-9223372036854775808 : Int) <= 0; omega, by show (0 : Int) < 9223372036854775808; omega, by show (-9223372036854775808 : Int) <= 0; omega, by show (0 : Int) < 9223372036854775808; omega, by show em.size <= _; decide, by show ns.length <= _; omega, fun x hx => by have := HW.out.2.1 x hx; omega⟩, by show f.list.length <= _; omega, HW.out.1⟩
     have HSQ : Hid (Sq (rdV (d + 1)) l 0 lx e (nst 8 (f, ns))) := by
      refine sq_bind HS1.out ?_
      show Sq (neR d 8 false) l1 0 lx e _
      refine sq_bind HL.out ?_
      by_cases he : e = 0
      . obtain rfl : m = n := by
         rcases Nat.lt_or_ge m n with h | h
         . exact absurd ⟨h, he⟩ hgo
         . omega
        exact sq_bind HS.out (sq_ret _ lx e)
      . exact sq_bind (x := (f, ns)) (sq_more HS.out hm he) (.inl ⟨he, rfl, rfl⟩)
     have t0 : wr.cell? ⟨g5, 0, none⟩ = some (.int .i64 8) := HN.out.b8.cell 0
     have t1 : wr.cell? ⟨g5, 1, none⟩ = some (.int .i64 0) := HN.out.b8.cell 1
     have t2 : wr.cell? ⟨g5, 2, none⟩ = some (.int .i64 0) := HN.out.b8.cell 2
     have t3 : wr.cell? ⟨g5, 3, none⟩ = some (.string ⟨#[]⟩) := HN.out.b8.cell 3
     have t4 : wr.cell? ⟨g5, 4, none⟩ = some (.slice na ns.length nc) := HN.out.b8.cell 4
     have t5 : wr.cell? ⟨g5, 5, none⟩ = some (.slice ka f.list.length kc) := HN.out.b8.cell 5
     clear hvl hrg hfl
     by_cases hlt : m < n
     . have hlb : decide ((m : Int) < (n : Int)) = true := decide_eq_true (by omega)
       have heb : (e == 0) = false := beq_eq_false_iff_ne.2 (fun h => hgo ⟨hlt, h⟩)
       go_wp2_with (refine st_all rfl 48 (.tmp 4) (.tmp 112) rfl g4 48 zer (six ⟨8, 0, 0, em, ns⟩ na nc ka f.list.length kc) rfl rfl HN.out.b6 rfl s25 (six_one _ _ _ _ _ _) ?_)
       intro w9 b9 g9
       have HB9 : Hid (Blk w9 g4 48 (six ⟨8, 0, 0, em, ns⟩ na nc ka f.list.length kc)) := b9
       have HQ : Hid (Qo (rdV (d + 1)) w0 r W w9 l 0 (nst 8 (f, ns)) na nc ka kc lx e) := by
        have o1 := HOd.out.r
        have o2 := HOd.out.l6
        have o3 := HOd.out.l8
        have o4 := HOd.out.lB
        refine ⟨ro2_grown HN.out.ro g9 (fun x c => by injection c with c; omega), ⟨Lp, HV.out.1.keep fun x hx => ?_, fun x hx => ?_⟩, HWf.out, HSQ.out⟩
        . have := HV.out.2 x hx
          exact g9.block x this.2 (by intro c; injection c with c; omega)
        . have := HV.out.2 x hx
          have := g9.size
          omega
       clear b9 g9 t0 t1 t2 t3 t4 t5
       go_wp2
       refine bodyPost_ret (res_row rfl _ g4 48 _ _ rfl HB9.out Tryz.underlying48 rfl s25) rfl ?_
       exact ⟨nst 8 (f, ns), na, nc, ka, kc, lx, e, rfl, HQ.out⟩
     . have hlb : decide ((m : Int) < (n : Int)) = false := decide_eq_false (by omega)
       go_wp2_with (refine st_all rfl 48 (.tmp 4) (.tmp 112) rfl g4 48 zer (six ⟨8, 0, 0, em, ns⟩ na nc ka f.list.length kc) rfl rfl HN.out.b6 rfl s25 (six_one _ _ _ _ _ _) ?_)
       intro w9 b9 g9
       have HB9 : Hid (Blk w9 g4 48 (six ⟨8, 0, 0, em, ns⟩ na nc ka f.list.length kc)) := b9
       have HQ : Hid (Qo (rdV (d + 1)) w0 r W w9 l 0 (nst 8 (f, ns)) na nc ka kc lx e) := by
        have o1 := HOd.out.r
        have o2 := HOd.out.l6
        have o3 := HOd.out.l8
        have o4 := HOd.out.lB
        refine ⟨ro2_grown HN.out.ro g9 (fun x c => by injection c with c; omega), ⟨Lp, HV.out.1.keep fun x hx => ?_, fun x hx => ?_⟩, HWf.out, HSQ.out⟩
        . have := HV.out.2 x hx
          exact g9.block x this.2 (by intro c; injection c with c; omega)
        . have := HV.out.2 x hx
          have := g9.size
          omega
       clear b9 g9 t0 t1 t2 t3 t4 t5
       go_wp2
       refine bodyPost_ret (res_row rfl _ g4 48 _ _ rfl HB9.out Tryz.underlying48 rfl s25) rfl ?_
       exact ⟨nst 8 (f, ns), na, nc, ka, kc, lx, e, rfl, HQ.out⟩
    obtain ⟨hlt, he⟩ := hgo
    subst he
    have hlb : decide ((m : Int) < (n : Int)) = true := decide_eq_true (by omega)
    have ck0 : wr.cell? ⟨g5, 0, none⟩ = some (.int .i64 8) := HN.out.b8.cell 0
    have HK : Hid (NJ w4.heap.size g4 g5 r w0 W 8 wr lx 0 ns f vn vk cs Lf) := HN.out
    clear HN
    obtain ⟨C, hC⟩ : ∃ C : World -> Prop, C = fun w' => w'.cell? ⟨g5, 5, none⟩ = some vk := ⟨_, rfl⟩
    have CN : Hid (∀ w', C w' -> w'.cell? ⟨g5, 5, none⟩ = some vk) := fun w' h => by rw [hC] at h; exact h
    have CI : Hid (∀ w', w'.cell? ⟨g5, 5, none⟩ = some vk -> C w') := fun w' h => by rw [hC]; exact h
    have D0 : Hid (Below wr.heap.size wr { wr with drawn := wr.drawn + 1 }) := Below.drew (Below.refl _ _)
    have HKv : Hid (NJ w4.heap.size g4 g5 r w0 W 8 { wr with drawn := wr.drawn + 1 } lx 0 ns f vn vk cs Lf) := HK.out.below D0.out
    have C0 : Hid (C { wr with drawn := wr.drawn + 1 }) := CI.out _ (HKv.out.b8.cell 5)
    clear hC HK D0
    go_wp2
    clear c1 ck0
    refine region_calm C 9 (by kernel_rfl) ?_
    have hCp := cpo C0.out
    generalize ({ wr with drawn := wr.drawn + 1 } : World) = y0 at *
    refine seg 5 [0, 1, 2, 3, 4] rfl (by kernel_rfl) whole_blind C0.out (by kernel_rfl) ?_
    change wpQuiet _ _ _ _ (_ :: _ :: _ :: _ :: _ :: []) _
    repeat (first
     | go_big_quiet_skip
     | (go_big_quiet_want
        first
        | (refine q_one 46 (.inr (.inr (.inr (.inl rfl)))) (.tmp 103) rfl g5 5 rfl vk CN.out ?_
           simp only [Act.put, pu]
           go_big_quiet_on)
        | (go_big_quiet_op
           go_big_quiet_on)))
    refine wpQuiet_nil ?_
    have KV := VC.out w0 y0 r lx 0 HKv.out.ro.rq (Nat.le_trans hw HKv.out.ro.gr.size)
    refine lone_do (i := 5) 4 rfl (by kernel_rfl) rfl (by rfl) ?_
    intro K hK
    refine oper_call 67 #[.tmp 105, .tmp 107] #[115, 3] rfl #[.pointer (some ⟨r, 0, none⟩), .int .i64 (dp + 1)] (by rw [List.map_toArray]; rfl) (enters Tryz.func67 (by kernel_rfl) rfl) (fun v' w' => ∃ (q : Vt) (na : Option Addr) (nc : Nat) (ka : Option Addr) (kc : Nat) (l3 : List Nat) (e3 : Int), v' = .agg #[.int .i64 q.1.k, .int .i64 q.1.n, .int .i64 q.1.s, .string q.1.t, .slice na q.1.ns.length nc, .slice ka q.2.list.length kc] /\ Hid (Qo (rdV d) w0 r y0 w' lx 0 q na nc ka kc l3 e3)) (KV.mono fun e' w' ⟨q, na, nc, ka, kc, l3, e3, h1, h2⟩ => ⟨_, h1, q, na, nc, ka, kc, l3, e3, rfl, h2⟩) ?_
    rintro _ y1 ⟨q, na, nc, ka, kc, l3, e3, rfl, H5⟩
    have HN5 : Hid (NJ w4.heap.size g4 g5 r w0 W 8 y1 l3 e3 ns f vn vk cs Lf) := HKv.out.read HOd.out H5.out.ro
    have HS2 : Hid (Sq (rdN (fun l => rdV d l) false (m + 1)) l2 e2 l3 e3 (f.snoc q, ns)) := sq_bind HS.out (sq_bind (f := fun l => rdV d l) (g := fun v => .ret (f.snoc v, ns)) H5.out.sq (sq_ret _ l3 e3))
    have HQ5 : Hid (∃ Lq, VlL y1 q na nc ka kc Lq /\ ∀ x ∈ Lq, w4.heap.size <= x /\ x < y1.heap.size /\ vn.ownBlock ≠ some x /\ vk.ownBlock ≠ some x) := by
     obtain ⟨Lq, a1, a2⟩ := H5.out.vl
     refine ⟨Lq, a1, fun x hx => ?_⟩
     have h1 := a2 x hx
     have h3 := HKv.out.sz
     refine ⟨by omega, by omega, fun c => ?_, fun c => ?_⟩
     . have := (World.ownsRow.lt HKv.out.nm x c).2
       omega
     . have := (World.ownsRow.lt HKv.out.kd x c).2
       omega
    have HQw : Hid (WfV q) := H5.out.wf
    have c1 : C y1 := CI.out _ (HN5.out.b8.cell 5)
    refine hK _ _ c1 ?_
    simp only [Act.put, pu]
    clear H5 HKv C0 hCp KV
    refine lone_do (i := 6) 3 rfl (by kernel_rfl) rfl (by rfl) ?_
    intro K hK
    refine oper_kid 108 rfl (.int .i64 q.1.k) (.int .i64 q.1.n) (.int .i64 q.1.s) (.string q.1.t) (.slice na q.1.ns.length nc) (.slice ka q.2.list.length kc) rfl ?_
    obtain ⟨y2, HY2⟩ : ∃ y2, Hid (y1.alloc (.cells #[.int .i64 q.1.k, .int .i64 q.1.n, .int .i64 q.1.s, .string q.1.t, .slice na q.1.ns.length nc, .slice ka q.2.list.length kc] 48) = y2) := ⟨_, rfl⟩
    have GA : Hid (Below y1.heap.size y1 y2) := by rw [<- HY2.out]; exact (Below.refl _ _).alloc (Nat.le_refl _) _
    have HC9 : Hid (∀ j u, (six q.1 na nc ka q.2.list.length kc)[j]? = some u -> y2.cell? ⟨y1.heap.size, j, none⟩ = some u) := fun j u hj => by
     rw [<- HY2.out, World.cell?_alloc_new]
     show (six q.1 na nc ka q.2.list.length kc).toArray[j]? = some u
     rw [List.getElem?_toArray]
     exact hj
    rw [HY2.out]
    have HNa : Hid (NJ w4.heap.size g4 g5 r w0 W 8 y2 l3 e3 ns f vn vk cs Lf) := HN5.out.below GA.out
    have ca : C y2 := CI.out _ (HNa.out.b8.cell 5)
    refine hK _ _ ca ?_
    simp only [Act.put, pu]
    clear HY2 c1
    refine lone_do (i := 7) 2 rfl (by kernel_rfl) rfl (by rfl) ?_
    intro K hK
    refine oper_apk (.tmp 104) (.tmp 109) rfl w4.heap.size vk f.list.length cs rfl HNa.out.kd y1.heap.size 1 1 (six q.1 na nc ka q.2.list.length kc) rfl rfl HC9.out (six_one _ _ _ _ _ _) (by omega) HNa.out.sz ?_
    intro vk' y3 o3 g3 a3
    have hc3 : C y3 := CI.out _ ((HNa.out.b8.kept g3 (fun c => by have := (World.ownsRow.lt HNa.out.kd _ c.symm).1; have := HOd.out.lB; omega)).cell 5)
    refine hK _ _ hc3 ?_
    simp only [Act.put, pu]
    have hCq := cpo hc3
    refine lone_calm (i := 8) 1 rfl (by kernel_rfl) rfl rfl hc3 ?_
    go_big_quiet_want
    go_big_quiet_op
    go_big_quiet_on
    refine wpQuiet_nil ?_
    have HB8 : Hid (Blk y3 g5 48 [.int .i64 8, .int .i64 0, .int .i64 0, .string ⟨#[]⟩, vn, vk]) := HNa.out.b8.kept g3 (fun c => by have := (World.ownsRow.lt HNa.out.kd _ c.symm).1; have := HOd.out.lB; omega)
    have HO3 : Hid (y3.ownsRow w4.heap.size 48 6 vk' (f.list.length + 1) (cs ++ six q.1 na nc ka q.2.list.length kc)) := o3
    obtain ⟨hcel, hone⟩ : vk'.cells = #[vk'] /\ vk'.oneCell' = true := by
     rcases o3 with ⟨_, ⟨h, _⟩ | ⟨_, _, _, h, _⟩⟩ <;> subst h <;> exact ⟨rfl, rfl⟩
    have HA3 : Hid (vk'.ownBlock = vk.ownBlock ∨ vk'.ownBlock = some y2.heap.size) := a3
    have HG3 : Hid (y2.grownBy y3 vk.ownBlock) := g3
    clear o3 g3 a3 ca HNa HC9 hCq
    refine lone_last (i := 9) 0 rfl rfl (by kernel_rfl) rfl (by rfl) ?_
    intro K hK
    refine oper_st1 46 (.tmp 111) (.tmp 110) rfl g5 5 48 _ vk' rfl rfl hcel hone (by simp) HB8.out s23 ?_
    intro y4 b4 g4x
    have HKn : Hid (∃ Lf', NJ w4.heap.size g4 g5 r w0 W 8 y4 l3 e3 ns (f.snoc q) vn vk' (cs ++ six q.1 na nc ka q.2.list.length kc) Lf') := by
     obtain ⟨Lq, a1, a2⟩ := HQ5.out
     exact ⟨Lf ++ Lq, HN5.out.kid HOd.out a1 a2 GA.out HG3.out HO3.out HA3.out b4 g4x⟩
    have HFn : Hid (Wf (f.snoc q) /\ (f.snoc q).list.length = m + 1 /\ (∀ x ∈ ns, x.size <= 65536) /\ (ns).length <= m + 1) := by
     refine ⟨wf_snoc HQw.out HW.out.1, by rw [snoc_list, List.length_append, hfl]; rfl, ?_, ?_⟩
     . exact HW.out.2.1
     . have := HW.out.2.2
       omega
    clear b4 g4x HB8 HO3 HA3 HG3 GA HN5 hc3 HQ5 HQw HW HS
    refine hK _ _ ?_
    simp only [Act.put, pu]
    refine anyC_done (by kernel_rfl) ⟨rfl, ?_⟩
    clear CN CI hcel hone
    go_wp2
    go_roundw
    case rel =>
     obtain ⟨Lf', hk⟩ := HKn.out
     exact ⟨m + 1, l3, e3, _, f.snoc q, _, vk', _, Lf', by omega, by go_num, hk, HS2.out, HFn.out⟩
    case measure => simp [intOf]; omega
 by_cases k9x : x = 9
 . subst k9x
   have HF2 : Hid (Qf w0 r W w4 g4 g5 [.int .i64 9, .int .i64 0, .int .i64 0, .string ⟨#[]⟩, .slice none 0 0, .slice none 0 0] l1 0) := HF.out
   clear HF HBk HX
   have HOd : Hid (Od W r g4 g5 w4.heap.size) := ⟨hrW, hg4, HF2.out.l45, HF2.out.b5.lt⟩
   have HI0 : Hid (NJ w4.heap.size g4 g5 r w0 W 9 w4 l1 0 [] .nil (.slice none 0 0) (.slice none 0 0) [] []) :=
    ⟨HF2.out.ro, HF2.out.b4, HF2.out.b5, World.ownsRow_nil _ _ _ _, World.ownsRow_nil _ _ _ _, ⟨rfl, rfl⟩, fun x hx => by simp at hx, fun x c => by simp [Value.ownBlock] at c, Nat.le_refl _, hw⟩
   clear HF2
   go_wp2_with fail
   refine (qcnt_any w0 w4 r l1 0 HI0.out.ro.rq).mono ?_
   rintro e w5 ⟨n, l2, e2, rfl, hn, hz, H2⟩
   have HI4 : Hid (NJ w4.heap.size g4 g5 r w0 W 9 w5 l2 e2 [] .nil (.slice none 0 0) (.slice none 0 0) [] []) := HI0.out.read HOd.out ⟨H2.out.1, H2.out.2.1⟩
   have HL : Hid (Sq lenR l1 0 l2 e2 n) := H2.out.2.2
   clear H2 HI0 hz c5 c1
   go_wp2
   go_loopw [8] (fun iv wr => ∃ (m : Nat) (lx : List Nat) (e : Int) (ns : List ByteArray) (f : Fo) (vn vk : Value) (cs : List Value) (Lf : List Nat), m <= n /\ iv = .int .i64 (m : Int) /\ Hid ((NJ w4.heap.size g4 g5 r w0 W 9 wr lx e ns f vn vk cs Lf) /\ Sq (rdN (fun l => rdV d l) true m) l2 e2 lx e (f, ns) /\ Wf f /\ f.list.length = m /\ (∀ x ∈ ns, x.size <= 65536) /\ ns.length <= m)) (fun iv _ => n - (intOf iv).toNat)
   case atStart => exact ⟨0, l2, e2, [], .nil, _, _, [], [], by omega, rfl, HI4.out, sq_ret _ l2 e2, trivial, rfl, (by simp), (by simp)⟩
   case round =>
    clear HI4
    obtain ⟨m, lx, e, ns, f, vn, vk, cs, Lf, hm, rfl, HJ⟩ := hrel
    obtain ⟨hNJ, hSq, hwf, hfl, hsz, hnl⟩ := HJ.out
    have HN : Hid (NJ w4.heap.size g4 g5 r w0 W 9 wr lx e ns f vn vk cs Lf) := hNJ
    have HS : Hid (Sq (rdN (fun l => rdV d l) true m) l2 e2 lx e (f, ns)) := hSq
    have HW : Hid (Wf f /\ (∀ x ∈ ns, x.size <= 65536) /\ ns.length <= m) := ⟨hwf, hsz, hnl⟩
    obtain ⟨a3, k3, hb3, hx3⟩ := hNJ.ro.rq.ex
    have c1 : wr.cell? ⟨r, 1, none⟩ = some (.int .i64 e) := hb3.cell 1
    clear hNJ hSq hwf hsz HJ hb3 hx3
    by_cases hgo : m < n /\ e = 0
    case neg =>
     obtain ⟨na, nc, ka, kc, Lp, rfl, rfl, hvl, hrg⟩ := HN.out.val
     have HV : Hid (VlL wr (nst 9 (f, ns)) na nc ka kc Lp /\ ∀ x ∈ Lp, w4.heap.size <= x /\ x < wr.heap.size) := ⟨hvl, hrg⟩
     have HWf : Hid (WfV (nst 9 (f, ns))) := ⟨⟨by show (-9223372036854775808 : Int) <= 9; omega, by show (9 : Int) < 9223372036854775808; omega, by show (-9223372036854775808 : Int) <= 0; omega, by show (0 : Int) < 9223372036854775808; omega, by show (-9223372036854775808 : Int) <= 0; omega, by show (0 : Int) < 9223372036854775808; omega, by show em.size <= _; decide, by show ns.length <= _; omega, fun x hx => by have := HW.out.2.1 x hx; omega⟩, by show f.list.length <= _; omega, HW.out.1⟩
     have HSQ : Hid (Sq (rdV (d + 1)) l 0 lx e (nst 9 (f, ns))) := by
      refine sq_bind HS1.out ?_
      show Sq (neR d 9 true) l1 0 lx e _
      refine sq_bind HL.out ?_
      by_cases he : e = 0
      . obtain rfl : m = n := by
         rcases Nat.lt_or_ge m n with h | h
         . exact absurd ⟨h, he⟩ hgo
         . omega
        exact sq_bind HS.out (sq_ret _ lx e)
      . exact sq_bind (x := (f, ns)) (sq_more HS.out hm he) (.inl ⟨he, rfl, rfl⟩)
     have t0 : wr.cell? ⟨g5, 0, none⟩ = some (.int .i64 9) := HN.out.b8.cell 0
     have t1 : wr.cell? ⟨g5, 1, none⟩ = some (.int .i64 0) := HN.out.b8.cell 1
     have t2 : wr.cell? ⟨g5, 2, none⟩ = some (.int .i64 0) := HN.out.b8.cell 2
     have t3 : wr.cell? ⟨g5, 3, none⟩ = some (.string ⟨#[]⟩) := HN.out.b8.cell 3
     have t4 : wr.cell? ⟨g5, 4, none⟩ = some (.slice na ns.length nc) := HN.out.b8.cell 4
     have t5 : wr.cell? ⟨g5, 5, none⟩ = some (.slice ka f.list.length kc) := HN.out.b8.cell 5
     clear hvl hrg hfl
     by_cases hlt : m < n
     . have hlb : decide ((m : Int) < (n : Int)) = true := decide_eq_true (by omega)
       have heb : (e == 0) = false := beq_eq_false_iff_ne.2 (fun h => hgo ⟨hlt, h⟩)
       go_wp2_with (refine st_all rfl 48 (.tmp 4) (.tmp 112) rfl g4 48 zer (six ⟨9, 0, 0, em, ns⟩ na nc ka f.list.length kc) rfl rfl HN.out.b6 rfl s25 (six_one _ _ _ _ _ _) ?_)
       intro w9 b9 g9
       have HB9 : Hid (Blk w9 g4 48 (six ⟨9, 0, 0, em, ns⟩ na nc ka f.list.length kc)) := b9
       have HQ : Hid (Qo (rdV (d + 1)) w0 r W w9 l 0 (nst 9 (f, ns)) na nc ka kc lx e) := by
        have o1 := HOd.out.r
        have o2 := HOd.out.l6
        have o3 := HOd.out.l8
        have o4 := HOd.out.lB
        refine ⟨ro2_grown HN.out.ro g9 (fun x c => by injection c with c; omega), ⟨Lp, HV.out.1.keep fun x hx => ?_, fun x hx => ?_⟩, HWf.out, HSQ.out⟩
        . have := HV.out.2 x hx
          exact g9.block x this.2 (by intro c; injection c with c; omega)
        . have := HV.out.2 x hx
          have := g9.size
          omega
       clear b9 g9 t0 t1 t2 t3 t4 t5
       go_wp2
       refine bodyPost_ret (res_row rfl _ g4 48 _ _ rfl HB9.out Tryz.underlying48 rfl s25) rfl ?_
       exact ⟨nst 9 (f, ns), na, nc, ka, kc, lx, e, rfl, HQ.out⟩
     . have hlb : decide ((m : Int) < (n : Int)) = false := decide_eq_false (by omega)
       go_wp2_with (refine st_all rfl 48 (.tmp 4) (.tmp 112) rfl g4 48 zer (six ⟨9, 0, 0, em, ns⟩ na nc ka f.list.length kc) rfl rfl HN.out.b6 rfl s25 (six_one _ _ _ _ _ _) ?_)
       intro w9 b9 g9
       have HB9 : Hid (Blk w9 g4 48 (six ⟨9, 0, 0, em, ns⟩ na nc ka f.list.length kc)) := b9
       have HQ : Hid (Qo (rdV (d + 1)) w0 r W w9 l 0 (nst 9 (f, ns)) na nc ka kc lx e) := by
        have o1 := HOd.out.r
        have o2 := HOd.out.l6
        have o3 := HOd.out.l8
        have o4 := HOd.out.lB
        refine ⟨ro2_grown HN.out.ro g9 (fun x c => by injection c with c; omega), ⟨Lp, HV.out.1.keep fun x hx => ?_, fun x hx => ?_⟩, HWf.out, HSQ.out⟩
        . have := HV.out.2 x hx
          exact g9.block x this.2 (by intro c; injection c with c; omega)
        . have := HV.out.2 x hx
          have := g9.size
          omega
       clear b9 g9 t0 t1 t2 t3 t4 t5
       go_wp2
       refine bodyPost_ret (res_row rfl _ g4 48 _ _ rfl HB9.out Tryz.underlying48 rfl s25) rfl ?_
       exact ⟨nst 9 (f, ns), na, nc, ka, kc, lx, e, rfl, HQ.out⟩
    obtain ⟨hlt, he⟩ := hgo
    subst he
    have hlb : decide ((m : Int) < (n : Int)) = true := decide_eq_true (by omega)
    have ck0 : wr.cell? ⟨g5, 0, none⟩ = some (.int .i64 9) := HN.out.b8.cell 0
    obtain ⟨C, hC⟩ : ∃ C : World -> Prop, C = fun w' => w'.cell? ⟨g5, 4, none⟩ = some vn := ⟨_, rfl⟩
    have CN : Hid (∀ w', C w' -> w'.cell? ⟨g5, 4, none⟩ = some vn) := fun w' h => by rw [hC] at h; exact h
    have CI : Hid (∀ w', w'.cell? ⟨g5, 4, none⟩ = some vn -> C w') := fun w' h => by rw [hC]; exact h
    have D0 : Hid (Below wr.heap.size wr { wr with drawn := wr.drawn + 1 }) := Below.drew (Below.refl _ _)
    have HNv : Hid (NJ w4.heap.size g4 g5 r w0 W 9 { wr with drawn := wr.drawn + 1 } lx 0 ns f vn vk cs Lf) := HN.out.below D0.out
    have C0 : Hid (C { wr with drawn := wr.drawn + 1 }) := CI.out _ (HNv.out.b8.cell 4)
    clear hC HN D0
    go_wp2
    clear c1 ck0
    refine region_calm C 7 (by kernel_rfl) ?_
    have hCp := cpo C0.out
    generalize ({ wr with drawn := wr.drawn + 1 } : World) = v0 at *
    refine seg 5 [0, 1, 2] rfl (by kernel_rfl) whole_blind C0.out (by kernel_rfl) ?_
    change wpQuiet _ _ _ _ (_ :: _ :: _ :: []) _
    repeat (first
     | go_big_quiet_skip
     | (go_big_quiet_want
        first
        | (refine q_one 45 (.inr (.inr (.inl rfl))) (.tmp 96) rfl g5 4 rfl vn CN.out ?_
           simp only [Act.put, pu]
           go_big_quiet_on)
        | (go_big_quiet_op
           go_big_quiet_on)))
    refine wpQuiet_nil ?_
    refine lone_do (i := 3) 4 rfl (by kernel_rfl) rfl (by rfl) ?_
    intro K hK
    refine oper_call 87 #[.tmp 98] #[115] rfl #[.pointer (some ⟨r, 0, none⟩)] (by rw [List.map_toArray]; rfl) (enters Tryz.func87 (by kernel_rfl) rfl) (fun v' w' => ∃ (s : ByteArray) (ly : List Nat) (e1 : Int), v' = .string s /\ s.size <= 65536 /\ Hid (Rq w0 r w' ly e1 /\ v0.grownBy w' (some r) /\ Sq txR lx 0 ly e1 s)) ((qtxt_any w0 v0 r lx 0 HNv.out.ro.rq).mono fun e' w' ⟨s, ly, e1, h1, h2, _, h3⟩ => ⟨_, h1, s, ly, e1, rfl, h2, h3⟩) ?_
    rintro _ v1 ⟨s, ly, e1, rfl, hs, H1⟩
    have HN1 : Hid (NJ w4.heap.size g4 g5 r w0 W 9 v1 ly e1 ns f vn vk cs Lf) := HNv.out.read HOd.out ⟨H1.out.1, H1.out.2.1⟩
    have HT : Hid (Sq txR lx 0 ly e1 s) := H1.out.2.2
    have c1 : C v1 := CI.out _ (HN1.out.b8.cell 4)
    refine hK _ _ c1 ?_
    simp only [Act.put, pu]
    clear H1 HNv C0 hCp
    refine lone_do (i := 4) 3 rfl (by kernel_rfl) rfl (by rfl) ?_
    intro K hK
    refine oper_name 99 rfl s rfl ?_
    have DA : Hid (Below v1.heap.size v1 (v1.alloc (.cells #[.string s] 9))) := (Below.refl _ _).alloc (Nat.le_refl _) _
    have HNa : Hid (NJ w4.heap.size g4 g5 r w0 W 9 (v1.alloc (.cells #[.string s] 9)) ly e1 ns f vn vk cs Lf) := HN1.out.below DA.out
    have HNms : Hid (Nms (v1.alloc (.cells #[.string s] 9)) (some ⟨v1.heap.size, 0, none⟩) [s]) := .inr ⟨v1.heap.size, 0, rfl, fun i x hx => by
     rw [Nat.zero_add, World.cell?_alloc_new]
     cases i with
     | zero => simp at hx; subst hx; rfl
     | succ i => simp at hx⟩
    have ca : C (v1.alloc (.cells #[.string s] 9)) := CI.out _ (HNa.out.b8.cell 4)
    refine hK _ _ ca ?_
    simp only [Act.put, pu]
    refine lone_do (i := 5) 2 rfl (by kernel_rfl) rfl (by rfl) ?_
    intro K hK
    refine oper_apn (.tmp 97) (.tmp 100) rfl w4.heap.size vn ns.length (ns.map Value.string) rfl HNa.out.nm (some ⟨v1.heap.size, 0, none⟩) 1 [s] rfl HNms.out (by intro h; cases h) (by simp only [List.length_cons, List.length_nil]; omega) HNa.out.sz ?_
    intro vn' v2 o2 g2 a2
    have hc2 : C v2 := CI.out _ ((HNa.out.b8.kept g2 (fun c => by have := (World.ownsRow.lt HNa.out.nm _ c.symm).1; have := HOd.out.lB; omega)).cell 4)
    refine hK _ _ hc2 ?_
    simp only [Act.put, pu]
    have hCq := cpo hc2
    refine lone_calm (i := 6) 1 rfl (by kernel_rfl) rfl rfl hc2 ?_
    go_big_quiet_want
    go_big_quiet_op
    go_big_quiet_on
    refine wpQuiet_nil ?_
    have HB8 : Hid (Blk v2 g5 48 [.int .i64 9, .int .i64 0, .int .i64 0, .string ⟨#[]⟩, vn, vk]) := HNa.out.b8.kept g2 (fun c => by have := (World.ownsRow.lt HNa.out.nm _ c.symm).1; have := HOd.out.lB; omega)
    have HO2 : Hid (v2.ownsRow w4.heap.size 9 1 vn' (ns.length + 1) (ns.map Value.string ++ [.string s])) := o2
    obtain ⟨hcel, hone⟩ : vn'.cells = #[vn'] /\ vn'.oneCell' = true := by
     rcases o2 with ⟨_, ⟨h, _⟩ | ⟨_, _, _, h, _⟩⟩ <;> subst h <;> exact ⟨rfl, rfl⟩
    have HA2 : Hid (vn'.ownBlock = vn.ownBlock ∨ vn'.ownBlock = some (v1.alloc (.cells #[.string s] 9)).heap.size) := a2
    have HG2 : Hid ((v1.alloc (.cells #[.string s] 9)).grownBy v2 vn.ownBlock) := g2
    clear o2 g2 a2 ca c1 HNa HNms hCq
    refine lone_last (i := 7) 0 rfl rfl (by kernel_rfl) rfl (by rfl) ?_
    intro K hK
    refine oper_st1 45 (.tmp 102) (.tmp 101) rfl g5 4 48 _ vn' rfl rfl hcel hone (by simp) HB8.out s22 ?_
    intro v3 b3 g3
    have HK : Hid (NJ w4.heap.size g4 g5 r w0 W 9 v3 ly e1 (ns ++ [s]) f vn' vk cs Lf) := HN1.out.name HOd.out DA.out HG2.out HO2.out HA2.out b3 g3
    clear b3 g3 HB8 HO2 HA2 HG2 DA HN1 hc2
    refine hK _ _ ?_
    simp only [Act.put, pu]
    refine anyC_done (by kernel_rfl) ⟨rfl, ?_⟩
    clear CN CI hcel hone
    obtain ⟨C, hC⟩ : ∃ C : World -> Prop, C = fun w' => w'.cell? ⟨g5, 5, none⟩ = some vk := ⟨_, rfl⟩
    have CN : Hid (∀ w', C w' -> w'.cell? ⟨g5, 5, none⟩ = some vk) := fun w' h => by rw [hC] at h; exact h
    have CI : Hid (∀ w', w'.cell? ⟨g5, 5, none⟩ = some vk -> C w') := fun w' h => by rw [hC]; exact h
    have D0 : Hid (Below v3.heap.size v3 { v3 with drawn := v3.drawn + 1 }) := Below.drew (Below.refl _ _)
    have HKv : Hid (NJ w4.heap.size g4 g5 r w0 W 9 { v3 with drawn := v3.drawn + 1 } ly e1 (ns ++ [s]) f vn' vk cs Lf) := HK.out.below D0.out
    have C0 : Hid (C { v3 with drawn := v3.drawn + 1 }) := CI.out _ (HKv.out.b8.cell 5)
    clear hC HK D0
    go_wp2
    refine region_calm C 9 (by kernel_rfl) ?_
    have hCp := cpo C0.out
    generalize ({ v3 with drawn := v3.drawn + 1 } : World) = y0 at *
    refine seg 5 [0, 1, 2, 3, 4] rfl (by kernel_rfl) whole_blind C0.out (by kernel_rfl) ?_
    change wpQuiet _ _ _ _ (_ :: _ :: _ :: _ :: _ :: []) _
    repeat (first
     | go_big_quiet_skip
     | (go_big_quiet_want
        first
        | (refine q_one 46 (.inr (.inr (.inr (.inl rfl)))) (.tmp 103) rfl g5 5 rfl vk CN.out ?_
           simp only [Act.put, pu]
           go_big_quiet_on)
        | (go_big_quiet_op
           go_big_quiet_on)))
    refine wpQuiet_nil ?_
    have KV := VC.out w0 y0 r ly e1 HKv.out.ro.rq (Nat.le_trans hw HKv.out.ro.gr.size)
    refine lone_do (i := 5) 4 rfl (by kernel_rfl) rfl (by rfl) ?_
    intro K hK
    refine oper_call 67 #[.tmp 105, .tmp 107] #[115, 3] rfl #[.pointer (some ⟨r, 0, none⟩), .int .i64 (dp + 1)] (by rw [List.map_toArray]; rfl) (enters Tryz.func67 (by kernel_rfl) rfl) (fun v' w' => ∃ (q : Vt) (na : Option Addr) (nc : Nat) (ka : Option Addr) (kc : Nat) (l3 : List Nat) (e3 : Int), v' = .agg #[.int .i64 q.1.k, .int .i64 q.1.n, .int .i64 q.1.s, .string q.1.t, .slice na q.1.ns.length nc, .slice ka q.2.list.length kc] /\ Hid (Qo (rdV d) w0 r y0 w' ly e1 q na nc ka kc l3 e3)) (KV.mono fun e' w' ⟨q, na, nc, ka, kc, l3, e3, h1, h2⟩ => ⟨_, h1, q, na, nc, ka, kc, l3, e3, rfl, h2⟩) ?_
    rintro _ y1 ⟨q, na, nc, ka, kc, l3, e3, rfl, H5⟩
    have HN5 : Hid (NJ w4.heap.size g4 g5 r w0 W 9 y1 l3 e3 (ns ++ [s]) f vn' vk cs Lf) := HKv.out.read HOd.out H5.out.ro
    have HS2 : Hid (Sq (rdN (fun l => rdV d l) true (m + 1)) l2 e2 l3 e3 (f.snoc q, (ns ++ [s]))) := sq_bind HS.out (sq_bind (f := txR) (g := fun s => Rdr.bind (fun l => rdV d l) fun v => .ret (f.snoc v, ns ++ [s])) HT.out (sq_bind (f := fun l => rdV d l) (g := fun v => .ret (f.snoc v, ns ++ [s])) H5.out.sq (sq_ret _ l3 e3)))
    have HQ5 : Hid (∃ Lq, VlL y1 q na nc ka kc Lq /\ ∀ x ∈ Lq, w4.heap.size <= x /\ x < y1.heap.size /\ vn'.ownBlock ≠ some x /\ vk.ownBlock ≠ some x) := by
     obtain ⟨Lq, a1, a2⟩ := H5.out.vl
     refine ⟨Lq, a1, fun x hx => ?_⟩
     have h1 := a2 x hx
     have h3 := HKv.out.sz
     refine ⟨by omega, by omega, fun c => ?_, fun c => ?_⟩
     . have := (World.ownsRow.lt HKv.out.nm x c).2
       omega
     . have := (World.ownsRow.lt HKv.out.kd x c).2
       omega
    have HQw : Hid (WfV q) := H5.out.wf
    have c1 : C y1 := CI.out _ (HN5.out.b8.cell 5)
    refine hK _ _ c1 ?_
    simp only [Act.put, pu]
    clear H5 HKv C0 hCp KV
    refine lone_do (i := 6) 3 rfl (by kernel_rfl) rfl (by rfl) ?_
    intro K hK
    refine oper_kid 108 rfl (.int .i64 q.1.k) (.int .i64 q.1.n) (.int .i64 q.1.s) (.string q.1.t) (.slice na q.1.ns.length nc) (.slice ka q.2.list.length kc) rfl ?_
    obtain ⟨y2, HY2⟩ : ∃ y2, Hid (y1.alloc (.cells #[.int .i64 q.1.k, .int .i64 q.1.n, .int .i64 q.1.s, .string q.1.t, .slice na q.1.ns.length nc, .slice ka q.2.list.length kc] 48) = y2) := ⟨_, rfl⟩
    have GA : Hid (Below y1.heap.size y1 y2) := by rw [<- HY2.out]; exact (Below.refl _ _).alloc (Nat.le_refl _) _
    have HC9 : Hid (∀ j u, (six q.1 na nc ka q.2.list.length kc)[j]? = some u -> y2.cell? ⟨y1.heap.size, j, none⟩ = some u) := fun j u hj => by
     rw [<- HY2.out, World.cell?_alloc_new]
     show (six q.1 na nc ka q.2.list.length kc).toArray[j]? = some u
     rw [List.getElem?_toArray]
     exact hj
    rw [HY2.out]
    have HNa : Hid (NJ w4.heap.size g4 g5 r w0 W 9 y2 l3 e3 (ns ++ [s]) f vn' vk cs Lf) := HN5.out.below GA.out
    have ca : C y2 := CI.out _ (HNa.out.b8.cell 5)
    refine hK _ _ ca ?_
    simp only [Act.put, pu]
    clear HY2 c1
    refine lone_do (i := 7) 2 rfl (by kernel_rfl) rfl (by rfl) ?_
    intro K hK
    refine oper_apk (.tmp 104) (.tmp 109) rfl w4.heap.size vk f.list.length cs rfl HNa.out.kd y1.heap.size 1 1 (six q.1 na nc ka q.2.list.length kc) rfl rfl HC9.out (six_one _ _ _ _ _ _) (by omega) HNa.out.sz ?_
    intro vk' y3 o3 g3 a3
    have hc3 : C y3 := CI.out _ ((HNa.out.b8.kept g3 (fun c => by have := (World.ownsRow.lt HNa.out.kd _ c.symm).1; have := HOd.out.lB; omega)).cell 5)
    refine hK _ _ hc3 ?_
    simp only [Act.put, pu]
    have hCq := cpo hc3
    refine lone_calm (i := 8) 1 rfl (by kernel_rfl) rfl rfl hc3 ?_
    go_big_quiet_want
    go_big_quiet_op
    go_big_quiet_on
    refine wpQuiet_nil ?_
    have HB8 : Hid (Blk y3 g5 48 [.int .i64 9, .int .i64 0, .int .i64 0, .string ⟨#[]⟩, vn', vk]) := HNa.out.b8.kept g3 (fun c => by have := (World.ownsRow.lt HNa.out.kd _ c.symm).1; have := HOd.out.lB; omega)
    have HO3 : Hid (y3.ownsRow w4.heap.size 48 6 vk' (f.list.length + 1) (cs ++ six q.1 na nc ka q.2.list.length kc)) := o3
    obtain ⟨hcel, hone⟩ : vk'.cells = #[vk'] /\ vk'.oneCell' = true := by
     rcases o3 with ⟨_, ⟨h, _⟩ | ⟨_, _, _, h, _⟩⟩ <;> subst h <;> exact ⟨rfl, rfl⟩
    have HA3 : Hid (vk'.ownBlock = vk.ownBlock ∨ vk'.ownBlock = some y2.heap.size) := a3
    have HG3 : Hid (y2.grownBy y3 vk.ownBlock) := g3
    clear o3 g3 a3 ca HNa HC9 hCq
    refine lone_last (i := 9) 0 rfl rfl (by kernel_rfl) rfl (by rfl) ?_
    intro K hK
    refine oper_st1 46 (.tmp 111) (.tmp 110) rfl g5 5 48 _ vk' rfl rfl hcel hone (by simp) HB8.out s23 ?_
    intro y4 b4 g4x
    have HKn : Hid (∃ Lf', NJ w4.heap.size g4 g5 r w0 W 9 y4 l3 e3 (ns ++ [s]) (f.snoc q) vn' vk' (cs ++ six q.1 na nc ka q.2.list.length kc) Lf') := by
     obtain ⟨Lq, a1, a2⟩ := HQ5.out
     exact ⟨Lf ++ Lq, HN5.out.kid HOd.out a1 a2 GA.out HG3.out HO3.out HA3.out b4 g4x⟩
    have HFn : Hid (Wf (f.snoc q) /\ (f.snoc q).list.length = m + 1 /\ (∀ x ∈ (ns ++ [s]), x.size <= 65536) /\ ((ns ++ [s])).length <= m + 1) := by
     refine ⟨wf_snoc HQw.out HW.out.1, by rw [snoc_list, List.length_append, hfl]; rfl, ?_, ?_⟩
     . intro x hx
       rcases List.mem_append.1 hx with hx | hx
       . exact HW.out.2.1 x hx
       . simp at hx
         subst hx
         exact hs
     . rw [List.length_append]
       have := HW.out.2.2
       simp
       omega
    clear b4 g4x HB8 HO3 HA3 HG3 GA HN5 hc3 HQ5 HQw HW HS
    refine hK _ _ ?_
    simp only [Act.put, pu]
    refine anyC_done (by kernel_rfl) ⟨rfl, ?_⟩
    clear CN CI hcel hone
    go_wp2
    go_roundw
    case rel =>
     obtain ⟨Lf', hk⟩ := HKn.out
     exact ⟨m + 1, l3, e3, _, f.snoc q, _, vk', _, Lf', by omega, by go_num, hk, HS2.out, HFn.out⟩
    case measure => simp [intOf]; omega
 have hn1 : ((x : Int) == 1) = false := beq_eq_false_iff_ne.2 (by omega)
 have hn2 : ((x : Int) == 2) = false := beq_eq_false_iff_ne.2 (by omega)
 have hn3 : ((x : Int) == 3) = false := beq_eq_false_iff_ne.2 (by omega)
 have hn4 : ((x : Int) == 4) = false := beq_eq_false_iff_ne.2 (by omega)
 have hn5 : ((x : Int) == 5) = false := beq_eq_false_iff_ne.2 (by omega)
 have hn6 : ((x : Int) == 6) = false := beq_eq_false_iff_ne.2 (by omega)
 have hn7 : ((x : Int) == 7) = false := beq_eq_false_iff_ne.2 (by omega)
 have hn8 : ((x : Int) == 8) = false := beq_eq_false_iff_ne.2 (by omega)
 have hn9 : ((x : Int) == 9) = false := beq_eq_false_iff_ne.2 (by omega)
 go_wp2_with (refine st_one rfl 3 (.tmp 35) (.const (.int .i64 3)) rfl r 1 117 _ (.int .i64 3) rfl rfl rfl rfl (by simp) HBk.out s3 ?_)
 intro w5 b5 g5x
 have HF5 : Hid (Qf w0 r W w5 g4 g5 [.int .i64 (x : Int), .int .i64 0, .int .i64 0, .string ⟨#[]⟩, .slice none 0 0, .slice none 0 0] l1 3) := HF.out.fail HX.out b5 g5x
 clear b5 g5x HF c1 c5
 have HF : Hid (Qf w0 r W w5 g4 g5 [.int .i64 (x : Int), .int .i64 0, .int .i64 0, .string ⟨#[]⟩, .slice none 0 0, .slice none 0 0] l1 3) := HF5.out
 clear HF5
 have HWF : Hid (WfV (lf (x : Int) 0 0 ⟨#[]⟩)) := wf_lf (x : Int) 0 0 ⟨#[]⟩ (by omega) (by omega) (by omega) (by decide)
 have HSQ : Hid (Sq (rdV (d + 1)) l 0 l1 3 (lf (x : Int) 0 0 ⟨#[]⟩)) := by
  refine sq_bind HS1.out ?_
  show Sq (kdR d x) l1 0 l1 3 _
  have e : kdR d x = .no 3 := by
   unfold kdR
   rw [if_neg k1x, if_neg k2x, if_neg k3x, if_neg k4x, if_neg k5x, if_neg k6x, if_neg k7x, if_neg k8x, if_neg k9x]
  rw [e]
  exact .inr ⟨rfl, .inr ⟨3, rfl, rfl, by decide⟩⟩
 have t0 : w5.cell? ⟨g5, 0, none⟩ = some (.int .i64 (x : Int)) := HF.out.b5.cell 0
 have t1 : w5.cell? ⟨g5, 1, none⟩ = some (.int .i64 0) := HF.out.b5.cell 1
 have t2 : w5.cell? ⟨g5, 2, none⟩ = some (.int .i64 0) := HF.out.b5.cell 2
 have t3 : w5.cell? ⟨g5, 3, none⟩ = some (.string ⟨#[]⟩) := HF.out.b5.cell 3
 have t4 : w5.cell? ⟨g5, 4, none⟩ = some (.slice none 0 0) := HF.out.b5.cell 4
 have t5 : w5.cell? ⟨g5, 5, none⟩ = some (.slice none 0 0) := HF.out.b5.cell 5
 go_wp2_with (refine st_all rfl 48 (.tmp 4) (.tmp 112) rfl g4 48 zer [.int .i64 (x : Int), .int .i64 0, .int .i64 0, .string ⟨#[]⟩, .slice none 0 0, .slice none 0 0] rfl rfl HF.out.b4 rfl s25 (by simp [Value.oneCell']) ?_)
 intro w9 b9 g9
 have HB9 : Hid (Blk w9 g4 48 [.int .i64 (x : Int), .int .i64 0, .int .i64 0, .string ⟨#[]⟩, .slice none 0 0, .slice none 0 0]) := b9
 have HQ : Hid (Qo (rdV (d + 1)) w0 r W w9 l 0 (lf (x : Int) 0 0 ⟨#[]⟩) none 0 none 0 l1 3) := ⟨HF.out.res g9, ⟨[], vl_lf w9 (x : Int) 0 0 ⟨#[]⟩, by simp⟩, HWF.out, HSQ.out⟩
 clear b9 g9 t0 t1 t2 t3 t4 t5
 go_wp2
 refine bodyPost_ret (res_row rfl _ g4 48 _ _ rfl HB9.out Tryz.underlying48 rfl s25) rfl ?_
 exact ⟨(lf (x : Int) 0 0 ⟨#[]⟩), none, 0, none, 0, l1, 3, rfl, HQ.out⟩
end Go.Proofs.YtmbglggodifboaaGreat
