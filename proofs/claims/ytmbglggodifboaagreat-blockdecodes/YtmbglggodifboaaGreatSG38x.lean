import Derived.Test.YtmbglggodifboaaGreatSBq7
import Derived.Test.YtmbglggodifboaaGreatSEql
import Derived.Laws.MakeOwn
set_option maxHeartbeats 1000000
set_option maxRecDepth 8000
set_option linter.unusedSimpArgs false
set_option linter.unusedVariables false
namespace Go.Proofs.YtmbglggodifboaaGreat.Sh
open Go Go.RowKit Math Mt
theorem good_len {α : Type} {f : Rdr α} (h : Good f) {l r : List Nat} {x : α} (ho : Oct l) (e : f l = .ok (x, r)) : r.length <= l.length /\ Oct r := by
 obtain ⟨c, rfl, _⟩ := h l x r ho e
 exact ⟨by simp, ho.right⟩
theorem good_pre : Good preR := good_bind good_by fun k => good_bind good_n fun _ => good_bind good_n fun _ => good_bind good_n fun _ => good_bind good_t fun _ => good_bind good_n fun _ => good_bind good_n fun _ => good_if (good_bind (good_take 32) fun _ => good_ret ()) (good_no 3)
theorem esf_short {l : List Nat} (ho : Oct l) (hl : l.length <= 65536) : eSf l := by
 intro r hr l1 n r3 h1 h2 h3
 obtain ⟨a1, a2⟩ := good_len good_pre ho hr
 obtain ⟨b1, b2⟩ := good_len good_by a2 h1
 obtain ⟨c1, c2⟩ := good_len good_n b2 h2
 omega
theorem bsf_short {l : List Nat} (ho : Oct l) (hl : l.length <= 65536) : bSf l := by
 intro ix tm tx n pv k es l1 l2 l3 l4 l5 r h1 h2 h3 h4 h5 hk h6
 obtain ⟨a1, a2⟩ := good_len good_n ho h1
 obtain ⟨b1, b2⟩ := good_len good_n a2 h2
 obtain ⟨c1, c2⟩ := good_len good_n b2 h3
 obtain ⟨d1, d2⟩ := good_len (good_take 32) c2 h4
 obtain ⟨e1, e2⟩ := good_len good_n d2 h5
 obtain ⟨f1, f2⟩ := good_len (good_es k) e2 h6
 exact esf_short f2 (by omega)
theorem es_lk : ∀ (n : Nat) {l r : List Nat} {es : List En}, Oct l -> esR n l = .ok (es, r) -> ∀ e ∈ es, Lk e.v
 | 0, l, r, es, ho, h => by
   obtain ⟨e1, _⟩ := ret_inv h
   subst e1
   simp
 | n + 1, l, r, es, ho, h => by
   obtain ⟨fs, m, g1, h⟩ := bind_inv h
   obtain ⟨x, m2, g2, h⟩ := bind_inv h
   obtain ⟨e1, _⟩ := ret_inv h
   subst e1
   intro e he
   rcases List.mem_append.1 he with he | he
   . exact es_lk n ho g1 e he
   . rw [List.mem_singleton.1 he]; exact en_lk (good_len (good_es n) ho g1).2 g2
theorem dec_lk {l : List Nat} (ho : Oct l) : ∀ e ∈ (decK l).es, Lk e.v := by
 unfold decK
 cases h : bkR l with
 | error q => simp [noB]
 | ok p =>
   obtain ⟨B, r⟩ := p
   show ∀ e ∈ (if decB l = 0 then B else noB).es, Lk e.v
   by_cases hd : decB l = 0
   . rw [if_pos hd]
     obtain ⟨ix, m0, g0, h⟩ := bind_inv h
     obtain ⟨a1, a2⟩ := good_len good_n ho g0
     obtain ⟨tm, m1, g1, h⟩ := bind_inv h
     obtain ⟨b1, b2⟩ := good_len good_n a2 g1
     obtain ⟨tx, m2, g2, h⟩ := bind_inv h
     obtain ⟨c1, c2⟩ := good_len good_n b2 g2
     obtain ⟨pv, m3, g3, h⟩ := bind_inv h
     obtain ⟨d1, d2⟩ := good_len (good_take 32) c2 g3
     obtain ⟨n, m4, g4, h⟩ := bind_inv h
     obtain ⟨e1, e2⟩ := good_len good_n d2 g4
     obtain ⟨es, m5, g5, h⟩ := bind_inv h
     obtain ⟨f1, _⟩ := ret_inv h
     subst f1
     exact es_lk n e2 g5
   . rw [if_neg hd]; simp [noB]
theorem ent_same (e : En) (he : EnW e) (na : Option Addr) (nc : Nat) (ka : Option Addr) (kc : Nat) (na2 : Option Addr) (nc2 : Nat) (ka2 : Option Addr) (kc2 : Nat) (w : World) (hv : Vl w e.v na nc ka kc) (hv2 : Vl w e.v na2 nc2 ka2 kc2) :
 Calls Tryz.prog 41 #[.agg (eC e na nc ka kc).toArray, .agg (eC e na2 nc2 ka2 kc2).toArray] w fun e' w' => e' = .returned (.bool true) /\ Hid (Below w.heap.size w w') := by
 have HL : Hid (e.h.length = 32) := he.h.1
 have HE : Hid (EnW e) := he
 have HV : Hid (Vl w e.v na nc ka kc) := hv
 have HV2 : Hid (Vl w e.v na2 nc2 ka2 kc2) := hv2
 have HH : Hid (∀ w, (Op.equalIn 10000 23 (.agg (nums .u8 e.h).toArray) (.agg (nums .u8 e.h).toArray)).run Tryz.prog w = .ok true w) := fun w => by have := eq_hash he.h he.h w; simpa using this
 clear he hv hv2
 go_enter Tryz.func41, Tryz.ntmps41
 go_wp2_with (refine al_box rfl 52 (.tmp 0) rfl (eC e na nc ka kc) rfl ?_)
 intro g2 w1 l1 B2 G0
 have Z := (Below.refl w.heap.size w).grown G0 (Nat.le_refl _) (by simp)
 clear G0
 go_wp2_with (refine al_box rfl 52 (.tmp 1) rfl (eC e na2 nc2 ka2 kc2) rfl ?_)
 intro g3 w2 l3 B3 G0
 have Z := Z.grown G0 Z.size (by simp)
 have B2 := B2.kept G0 (by simp)
 clear G0
 have F2 := enF_of HL.out B2.all
 have F3 := enF_of HL.out B3.all
 obtain ⟨a1, a2, a3, a4, a5, a6, a7, a8, a9, a10⟩ := F2
 obtain ⟨b1, b2, b3, b4, b5, b6, b7, b8, b9, b10⟩ := F3
 simp only [Nat.zero_add] at a1 a2 a3 a4 a5 a6 a7 a8 a9 a10 b1 b2 b3 b4 b5 b6 b7 b8 b9 b10
 have A6 : Hid (w2.rangeAt g2 5 (six e.v.1 na nc ka e.v.2.list.length kc)) := a6
 have A7 : Hid (w2.rangeAt g2 11 (nums .u8 e.h)) := a7
 have C6 : Hid (w2.rangeAt g3 5 (six e.v.1 na2 nc2 ka2 e.v.2.list.length kc2)) := b6
 have C7 : Hid (w2.rangeAt g3 11 (nums .u8 e.h)) := b7
 have hHH := HH.out w2
 clear a6 a7 b6 b7 B2 B3
 have KE := equal_any (wt e.v) e.v (Nat.le_refl _) HE.out.v e.v HE.out.v na nc ka kc na2 nc2 ka2 kc2 w2 (HV.out.below Z) (HV2.out.below Z)
 go_wp2_with (first
  | (refine ld_w (by rfl) 23 (.tmp 39) rfl g2 11 rfl (nums .u8 e.h) _ A7.out Tryz.underlying23 rfl (sH HL.out) ?_)
  | (refine ld_w (by rfl) 23 (.tmp 41) rfl g3 11 rfl (nums .u8 e.h) _ C7.out Tryz.underlying23 rfl (sH HL.out) ?_)
  | (refine ld_w (by rfl) 48 (.tmp 60) rfl g2 5 rfl (six e.v.1 na nc ka e.v.2.list.length kc) _ A6.out Tryz.underlying48 rfl (szV _ _ _ _ _ _) ?_)
  | (refine ld_w (by rfl) 48 (.tmp 62) rfl g3 5 rfl (six e.v.1 na2 nc2 ka2 e.v.2.list.length kc2) _ C6.out Tryz.underlying48 rfl (szV _ _ _ _ _ _) ?_))
 refine KE.mono ?_
 rintro e' w3 ⟨t, rfl, H⟩
 obtain rfl : t = true := by have h := H.out.1; simpa using h
 have HF : Hid (Below w.heap.size w w3) := Z.trans (H.out.2.mono Z.size)
 clear KE H Z A6 A7 C6 C7 HV HV2 hHH a1 a2 a3 a4 a5 a8 a9 a10 b1 b2 b3 b4 b5 b8 b9 b10
 go_wp2
 go_ret
 exact ⟨rfl, HF.out⟩
theorem entries_same (e : En) (he : EnW e) (na : Option Addr) (nc : Nat) (ka : Option Addr) (kc : Nat) (na2 : Option Addr) (nc2 : Nat) (ka2 : Option Addr) (kc2 : Nat) (w : World) (hv : Vl w e.v na nc ka kc) (hv2 : Vl w e.v na2 nc2 ka2 kc2) :
 Calls Tryz.prog 22 #[.agg (eC e na nc ka kc).toArray, .agg (eC e na2 nc2 ka2 kc2).toArray] w fun e' w' => e' = .returned (.bool true) /\ Hid (Below w.heap.size w w') := by
 have HL : Hid (e.h.length = 32) := he.h.1
 have HE : Hid (EnW e) := he
 have HV : Hid (Vl w e.v na nc ka kc) := hv
 have HV2 : Hid (Vl w e.v na2 nc2 ka2 kc2) := hv2
 clear he hv hv2
 go_enter Tryz.func22, Tryz.ntmps22
 go_wp2_with (refine al_box rfl 52 (.tmp 0) rfl (eC e na nc ka kc) rfl ?_)
 intro g2 w1 l1 B2 G0
 have Z := (Below.refl w.heap.size w).grown G0 (Nat.le_refl _) (by simp)
 clear G0
 go_wp2_with (refine al_box rfl 52 (.tmp 1) rfl (eC e na2 nc2 ka2 kc2) rfl ?_)
 intro g3 w2 l3 B3 G0
 have Z := Z.grown G0 Z.size (by simp)
 have B2 := B2.kept G0 (by simp)
 clear G0
 have KE := ent_same e HE.out na nc ka kc na2 nc2 ka2 kc2 w2 (HV.out.below Z) (HV2.out.below Z)
 go_wp2_with (first
  | (refine ld_w (by rfl) 52 (.tmp 2) rfl g2 0 rfl (eC e na nc ka kc) _ B2.all Tryz.underlying52 rfl (sE HL.out _ _ _ _) ?_)
  | (refine ld_w (by rfl) 52 (.tmp 3) rfl g3 0 rfl (eC e na2 nc2 ka2 kc2) _ B3.all Tryz.underlying52 rfl (sE HL.out _ _ _ _) ?_))
 refine KE.mono ?_
 rintro e' w3 ⟨rfl, H⟩
 have HF : Hid (Below w.heap.size w w3) := Z.trans (H.out.mono Z.size)
 clear KE H Z B2 B3
 go_wp2
 go_ret
 exact ⟨rfl, HF.out⟩
theorem in_any (n lo hi : Int) (w : World) (t : Bool) (ht : Hid (t = true ↔ inP n lo hi)) :
 Calls Tryz.prog 35 #[.int .i64 n, .int .i64 lo, .int .i64 hi] w fun e w' => e = .returned (.bool t) /\ w' = w := by
 by_cases h1 : lo <= n
 . by_cases h2 : n <= hi
   . obtain rfl : t = true := ht.out.2 ⟨h1, h2⟩
     clear ht
     go_enter Tryz.func35, Tryz.ntmps35
     go_wp2
     go_ret
     exact ⟨rfl, rfl⟩
   . obtain rfl : t = false := Bool.eq_false_iff.2 fun h => h2 (ht.out.1 h).2
     clear ht
     go_enter Tryz.func35, Tryz.ntmps35
     go_wp2
     go_ret
     exact ⟨rfl, rfl⟩
 . obtain rfl : t = false := Bool.eq_false_iff.2 fun h => h1 (ht.out.1 h).1
   clear ht
   go_enter Tryz.func35, Tryz.ntmps35
   go_wp2
   go_ret
   exact ⟨rfl, rfl⟩
theorem vl_nv (w : World) : Vl w nv none 0 none 0 := (vl_lf w 0 0 0 em).vl
theorem bd_nv (a : Act) : Tryz.prog.built 48 ((#[] : Array (Nat × Operand)).map fun p => (p.1, a.eval p.2)).toList = some (six nv.1 none 0 none nv.2.list.length 0).toArray := by kernel_rfl
theorem empty_any (p : Vt) (hp : WfV p) (na : Option Addr) (nc : Nat) (ka : Option Addr) (kc : Nat) (w : World) (hv : Vl w p na nc ka kc) (t : Bool) (ht : Hid (t = true ↔ p = nv)) :
 Calls Tryz.prog 77 #[.agg (six p.1 na nc ka p.2.list.length kc).toArray] w fun e w' => e = .returned (.bool t) /\ Hid (Below w.heap.size w w') := by
 have HV : Hid (Vl w p na nc ka kc) := hv
 have HP : Hid (WfV p) := hp
 clear hv hp
 go_enter Tryz.func77, Tryz.ntmps77
 go_wp2_with (refine al_box rfl 48 (.tmp 0) rfl (six p.1 na nc ka p.2.list.length kc) rfl ?_)
 intro g1 w1 l1 B1 G0
 have Z := (Below.refl w.heap.size w).grown G0 (Nat.le_refl _) (by simp)
 clear G0
 have KE := equal_any (wt p) p (Nat.le_refl _) HP.out nv wf_nv na nc ka kc none 0 none 0 w1 (HV.out.below Z) (vl_nv w1)
 go_wp2_with (first
  | (refine ld_w (by rfl) 48 (.tmp 1) rfl g1 0 rfl (six p.1 na nc ka p.2.list.length kc) _ B1.all Tryz.underlying48 rfl (szV _ _ _ _ _ _) ?_)
  | (refine bd_w (by rfl) 48 #[] rfl (six nv.1 none 0 none nv.2.list.length 0) (bd_nv _) ?_))
 refine KE.mono ?_
 rintro e' w3 ⟨t2, rfl, H⟩
 obtain rfl : t = t2 := Bool.eq_iff_iff.2 (ht.out.trans H.out.1.symm)
 have HF : Hid (Below w.heap.size w w3) := Z.trans (H.out.2.mono Z.size)
 clear KE H Z B1
 go_wp2
 go_ret
 exact ⟨rfl, HF.out⟩
theorem bare_any (e : En) (hl : e.h.length = 32) (na : Option Addr) (nc : Nat) (ka : Option Addr) (kc : Nat) (w : World) :
 Calls Tryz.prog 78 #[.agg (eC e na nc ka kc).toArray] w fun e' w' => e' = .returned (.agg (eC { e with v := nv } none 0 none 0).toArray) /\ Hid (Below w.heap.size w w') := by
 have HL : Hid (e.h.length = 32) := hl
 clear hl
 go_enter Tryz.func78, Tryz.ntmps78
 go_wp2_with (refine al_box rfl 52 (.tmp 0) rfl (eC e na nc ka kc) rfl ?_)
 intro g1 w1 l1 B1 G0
 have Z := (Below.refl w.heap.size w).grown G0 (Nat.le_refl _) (by simp)
 clear G0
 go_wp2_with (refine al_zero rfl 52 rfl (eC e0 none 0 none 0) zEn ?_)
 intro g2 w2 l2 B2 G0
 have hg2 : w.heap.size <= g2 := Nat.le_trans Z.size l2
 have n12 : g1 ≠ g2 := by have := B1.lt; omega
 have Z := Z.grown G0 Z.size (by simp)
 have B1 := B1.kept G0 (by simp)
 clear G0
 have B1 : Blk w2 g1 52 ([.int .i64 e.k, .string e.t, .int .i64 e.tb, .int .i64 e.dc, .int .i64 e.vr] ++ (six e.v.1 na nc ka e.v.2.list.length kc ++ (nums .u8 e.h ++ [.bool e.g, .int .i64 e.ab, .int .i64 e.ae]))) := B1
 go_wp2_with (first
  | (refine bd_w (by rfl) 48 #[] rfl (six nv.1 none 0 none nv.2.list.length 0) (bd_nv _) ?_)
  | (refine st_row rfl 48 (.tmp 4) (.tmp 3) rfl g1 5 52 [.int .i64 e.k, .string e.t, .int .i64 e.tb, .int .i64 e.dc, .int .i64 e.vr] (six e.v.1 na nc ka e.v.2.list.length kc) (nums .u8 e.h ++ [.bool e.g, .int .i64 e.ab, .int .i64 e.ae]) (six nv.1 none 0 none nv.2.list.length 0) rfl rfl rfl B1 rfl (szV _ _ _ _ _ _) (six_one _ _ _ _ _ _) ?_))
 intro w3 B1' G0
 have B1 : Blk w3 g1 52 (eC { e with v := nv } none 0 none 0) := B1'
 have B2 := B2.kept G0 (fun e => n12 (Option.some.inj e).symm)
 have Z := Sh.grown_below Z G0 Z.size l1
 clear G0 B1'
 go_wp2_with (first
  | (refine ld_w (by rfl) 52 (.tmp 1) rfl g1 0 rfl (eC { e with v := nv } none 0 none 0) _ B1.all Tryz.underlying52 rfl (sE (e := { e with v := nv }) HL.out _ _ _ _) ?_)
  | (refine st_all rfl 52 (.tmp 2) (.tmp 5) rfl g2 52 (eC e0 none 0 none 0) (eC { e with v := nv } none 0 none 0) rfl rfl B2 (by rw [eC_len (e := { e with v := nv }) HL.out, eC_len zr_len]) (sE (e := { e with v := nv }) HL.out _ _ _ _) (eC_one _ _ _ _ _) ?_))
 intro w4 B2' G0
 have HF : Hid (Below w.heap.size w w4) := Sh.grown_below Z G0 Z.size hg2
 clear G0 B2 B1 Z
 go_wp2
 (try simp only [Exit.inBlock, Exit.then])
 refine bodyPost_ret (Sh.res_row rfl _ g2 52 _ _ rfl B2' Tryz.underlying52 rfl (sE (e := { e with v := nv }) HL.out _ _ _ _)) rfl ⟨rfl, HF.out⟩
structure Rc (w0 : World) (r : Nat) (w : World) (l : List Nat) (e : Int) : Prop where
 ex : ∃ a c, Blk w r 72 [.slice a l.length c, .int .i64 e] /\ Byt w0 a l /\ (a = none -> c = 0) /\ l.length <= c /\ c <= 9223372036854775807
 bl : Below w0.heap.size w0 w
 lt : w0.heap.size <= r
 oct : Oct l
 len : l.length <= 1000000
def RcC {α : Type} (F : Nat) (f : Rdr α) (val : α -> Value) (P : α -> Prop) : Prop := ∀ (w0 W : World) (r : Nat) (l : List Nat) (err : Int), Rc w0 r W l err ->
 Calls Tryz.prog F #[.pointer (some ⟨r, 0, none⟩)] W fun e w' => ∃ x l' err', e = .returned (val x) /\ P x /\ Hid (Rc w0 r w' l' err' /\ W.grownBy w' (some r) /\ Sq f l err l' err' x)
theorem Rc.same {w0 : World} {r : Nat} {w w' : World} {l : List Nat} {e : Int} (h : Rc w0 r w l e) {a : Option Addr} {c : Nat} {l' : List Nat} {e' : Int} (hb : Blk w' r 72 [.slice a l'.length c, .int .i64 e']) (hg : w.grownBy w' (some r)) (h1 : Byt w0 a l') (h2 : a = none -> c = 0) (h3 : l'.length <= c) (h4 : c <= 9223372036854775807) (h5 : Oct l') (h6 : l'.length <= 1000000) : Rc w0 r w' l' e' :=
 ⟨⟨a, c, hb, h1, h2, h3, h4⟩, h.bl.grown hg h.bl.size (fun x e => by injection e with e; have := h.lt; omega), h.lt, h5, h6⟩
theorem Rc.keep {w0 : World} {r : Nat} {w w' : World} {l : List Nat} {e : Int} (h : Rc w0 r w l e) {row : Option Nat} (hg : w.grownBy w' row) (hne : some r ≠ row) (hb : Below w0.heap.size w0 w') : Rc w0 r w' l e := by
 obtain ⟨a, c, h1, h2⟩ := h.ex
 exact ⟨⟨a, c, Blk.kept h1 hg hne, h2⟩, hb, h.lt, h.oct, h.len⟩
theorem Rc.st {w0 : World} {r : Nat} {w w' : World} {l : List Nat} {e : Int} (h : Rc w0 r w l e) {g : Nat} (hg : w.grownBy w' (some g)) (hne : r ≠ g) (hl : w0.heap.size <= g) : Rc w0 r w' l e :=
 h.keep hg (fun x => hne (Option.some.inj x)) (h.bl.grown hg h.bl.size (fun x e => by have := Option.some.inj e; omega))
theorem Rc.al {w0 : World} {r : Nat} {w w' : World} {l : List Nat} {e : Int} (h : Rc w0 r w l e) (hg : w.grownBy w' none) : Rc w0 r w' l e :=
 h.keep hg (by simp) (h.bl.grown hg h.bl.size (fun x e => by cases e))
theorem Rc.be {w0 : World} {r : Nat} {w w' : World} {l : List Nat} {e : Int} (h : Rc w0 r w l e) (hg : Below w.heap.size w w') : Rc w0 r w' l e :=
 h.keep (row := none) ⟨hg.os, hg.tape, hg.output, hg.size, fun x hx _ => hg.block x hx⟩ (by simp) (h.bl.trans (hg.mono h.bl.size))
theorem Rc.rlt {w0 : World} {r : Nat} {w : World} {l : List Nat} {e : Int} (h : Rc w0 r w l e) : r < w.heap.size := by
 obtain ⟨_, _, hb, _⟩ := h.ex
 exact hb.lt
theorem Rc.row {w0 : World} {r : Nat} {w w' : World} {l : List Nat} {e : Int} (h : Rc w0 r w l e) {row : Option Nat} (k : w.grownBy w' row) (hg : ∀ x, row = some x -> r ≠ x /\ w0.heap.size <= x) : Rc w0 r w' l e := by
 cases row with
 | none => exact h.al k
 | some x => exact h.st k (hg x rfl).1 (hg x rfl).2
theorem oct_rep (n : Nat) : Oct (List.replicate n 0) := fun x hx => by have := List.eq_of_mem_replicate hx; omega
theorem info5z : (Tryz.prog.info? 5).map (fun i => (i.zero.map (·.cells), i.size, i.bytes)) = some (some #[.int .u8 0], 1, 1) := by kernel_rfl
theorem made_z (n : Nat) : (madeCells #[Value.int .u8 0] n).toList = vals (List.replicate n 0) := by
 unfold madeCells vals
 apply List.ext_getElem?
 intro i
 by_cases h : i < n
 . simp [h, Nat.mod_one]
 . simp [h]
theorem mk_byt {ops : Array Oper} {rest : List Oper} {o : Oper} {a : Act} {w : World} {Q : Exit -> Act -> World -> Prop} (hg : o.guard = none) (x : Operand) (ho : o.op = .makeSlice 29 x x) (n : Nat) (zn : Int) (hzn : zn = (n : Int)) (hx : a.eval x = .int .i64 zn) (hn : n <= 32)
 (h : ∀ w', Byt w' (some ⟨w.heap.size, 0, none⟩) (List.replicate n 0) -> w.grownBy w' none -> wpList Tryz.prog ops Q rest (a.put o.dst (.slice (some ⟨w.heap.size, 0, none⟩) n n)) w') : wpList Tryz.prog ops Q (o :: rest) a w := by
 subst hzn
 refine wpList_plain hg fun K hK => ?_
 have hi := info5z
 cases hq : Tryz.prog.info? 5 with
 | none => simp [hq] at hi
 | some i =>
   simp only [hq, Option.map_some, Option.some.injEq, Prod.mk.injEq] at hi
   obtain ⟨h1, h2, h3⟩ := hi
   obtain ⟨z, hz, hzc⟩ : ∃ z, i.zero = some z /\ z.cells = #[.int .u8 0] := by
    cases hzz : i.zero with
    | none => rw [hzz] at h1; cases h1
    | some z => rw [hzz] at h1; exact ⟨z, rfl, by simpa using h1⟩
   have hb' : (i.bytes : Int) * (n : Int) <= 281474976710656 := by rw [h3]; omega
   have hr := run_make (P := Tryz.prog) w 29 5 i z Tryz.underlying29 hq hz .i64 .i64 n n (by omega) (Int.le_refl _) hb' (by omega)
   simp only [Int.toNat_natCast] at hr
   unfold Oper.wp execOp
   simp only [ho, hx, hr, Sem.run_bind, Result.andThen_ok, Sem.run_pure]
   refine hK _ _ (h _ ?_ (World.grownBy_alloc w _ none))
   rw [h2, Nat.mul_one, hzc]
   have e : madeCells #[Value.int .u8 0] n = (vals (List.replicate n 0)).toArray := by rw [<- made_z]
   rw [e]
   exact byt_lit w _
theorem rraw_any (n : Nat) (hn : n <= 9007199254740992) (w0 W : World) (r : Nat) (l : List Nat) (err : Int) (h : Rc w0 r W l err) :
 Calls Tryz.prog 47 #[.pointer (some ⟨r, 0, none⟩), .int .i64 (n : Int)] W fun e w' => ∃ (x l' : List Nat) (err' : Int) (ax : Option Addr) (cx : Nat), e = .returned (.slice ax x.length cx) /\ Hid (Rc w0 r w' l' err' /\ W.grownBy w' (some r) /\ Sq (takeR n) l err l' err' x /\ Byt w' ax x /\ (ax = none -> cx = 0) /\ x.length <= cx /\ cx <= 9223372036854775807 /\ Oct x /\ (err' ≠ 0 -> x = List.replicate (min n 32) 0) /\ (err' = 0 -> x.length = n) /\ (err' = 0 -> Byt w0 ax x)) := by
 obtain ⟨a, c, hb, hB, hnil, hlc, hcm⟩ := h.ex
 have HR : Hid (Rc w0 r W l err) := h
 have HBk : Hid (Blk W r 72 [.slice a l.length c, .int .i64 err]) := hb
 have c0 : W.cell? ⟨r, 0, none⟩ = some (.slice a l.length c) := hb.cell 0
 have c1 : W.cell? ⟨r, 1, none⟩ = some (.int .i64 err) := hb.cell 1
 have HY : Hid (Byt w0 a l /\ (a = none -> c = 0)) := ⟨hB, hnil⟩
 have hlen := h.len
 have hmn : min (n : Int) 32 = ((min n 32 : Nat) : Int) := by omega
 have hm32 : min n 32 <= 32 := by omega
 obtain ⟨m, HM⟩ : ∃ m, Hid (min n 32 = m) := ⟨_, rfl⟩
 rw [HM.out] at hmn hm32
 clear hb hB hnil h
 by_cases he : err = 0
 case neg =>
  have hEb : (err != 0) = true := by simpa using he
  have hEe : (err == 0) = false := by simpa using he
  have HE0 : Hid (err ≠ 0) := he
  clear he
  go_enter Tryz.func47, Tryz.ntmps47
  go_wp2_with (refine mk_byt rfl (.tmp 29) rfl m _ (by first | exact hmn | omega) rfl hm32 ?_)
  all_goals
   intro w2 hby g2
   have HF : Hid (Rc w0 r w2 l err /\ W.grownBy w2 (some r) /\ Byt w2 (some ⟨W.heap.size, 0, none⟩) (List.replicate m 0)) := ⟨HR.out.al g2, gr_al (World.grownBy.refl _ _) g2, hby⟩
   clear hby g2
   go_wp2
   go_ret
   exact ⟨List.replicate m 0, l, err, _, m, by simp, HF.out.1, HF.out.2.1, .inl ⟨HE0.out, rfl, rfl⟩, HF.out.2.2, by simp, by simp, by omega, oct_rep m, fun _ => by rw [HM.out], fun q => absurd q HE0.out, fun q => absurd q HE0.out⟩
 subst he
 by_cases hl : l.length < n
 . have g1 : (l.length : Int) < (n : Int) := by omega
   have HS : Hid (Sq (takeR n) l 0 l 2 (List.replicate m 0)) := .inr ⟨rfl, .inr ⟨2, by unfold takeR; rw [if_pos hl], rfl, by decide⟩⟩
   clear hl
   go_enter Tryz.func47, Tryz.ntmps47
   go_wp2_with (refine st_one rfl 3 (.tmp 22) (.const (.int .i64 2)) rfl r 1 72 _ (.int .i64 2) rfl rfl rfl rfl (by simp) HBk.out s3 ?_)
   intro w1 b1 g1'
   have ce : w1.cell? ⟨r, 1, none⟩ = some (.int .i64 2) := b1.cell 1
   have HR1 : Hid (Rc w0 r w1 l 2 /\ W.grownBy w1 (some r)) := ⟨HR.out.same b1 g1' HY.out.1 HY.out.2 hlc hcm HR.out.oct HR.out.len, g1'⟩
   clear b1 g1' c0 c1 HBk
   go_wp2_with (refine mk_byt rfl (.tmp 29) rfl m _ (by first | exact hmn | omega) rfl hm32 ?_)
   all_goals
    intro w2 hby g2
    have HF : Hid (Rc w0 r w2 l 2 /\ W.grownBy w2 (some r) /\ Byt w2 (some ⟨w1.heap.size, 0, none⟩) (List.replicate m 0)) := ⟨HR1.out.1.al g2, gr_al HR1.out.2 g2, hby⟩
    clear hby g2
    go_wp2
    go_ret
    exact ⟨List.replicate m 0, l, 2, _, m, by simp, HF.out.1, HF.out.2.1, HS.out, HF.out.2.2, by simp, by simp, by omega, oct_rep m, fun _ => by rw [HM.out], fun q => absurd q (by decide), fun q => absurd q (by decide)⟩
 . have g1 : ¬ (l.length : Int) < (n : Int) := by omega
   have hnc : (n : Int) <= (c : Int) := by omega
   have HLT : Hid ((l.take n).length = n) := by show _ = _; rw [List.length_take]; omega
   have HS : Hid (Sq (takeR n) l 0 (l.drop n) 0 (l.take n)) := .inr ⟨rfl, .inl ⟨by unfold takeR; rw [if_neg hl], rfl⟩⟩
   have hnl : n <= l.length := by omega
   clear hl hmn
   go_enter Tryz.func47, Tryz.ntmps47
   go_wp2_with (refine sl_byt rfl (.tmp 41) (.tmp 42) rfl a c n l w0 _ rfl rfl rfl hnl hlc HY.out.1 HY.out.2 ?_)
   intro A' hA hAn
   have HA : Hid (Byt w0 A' (l.drop n) /\ (A' = none -> c - n = 0)) := ⟨hA, hAn⟩
   clear hA hAn
   go_wp2_with (refine st_one rfl 29 (.tmp 45) (.tmp 43) rfl r 0 72 _ (.slice A' (l.length - n) (c - n)) rfl rfl rfl rfl (by simp) HBk.out s29 ?_)
   intro w1 b1 g1'
   have HF : Hid (Rc w0 r w1 (l.drop n) 0 /\ W.grownBy w1 (some r)) := by
    refine ⟨HR.out.same (a := A') (c := c - n) ?_ g1' HA.out.1 HA.out.2 (by rw [List.length_drop]; omega) (by omega) (oct_drop HR.out.oct n) (by rw [List.length_drop]; omega), g1'⟩
    rw [List.length_drop]
    exact b1
   clear b1 g1'
   go_wp2
   go_ret
   exact ⟨l.take n, l.drop n, 0, a, c, by rw [HLT.out]; rfl, HF.out.1, HF.out.2, HS.out, (byt_take HY.out.1 n).below HF.out.1.bl, HY.out.2, by rw [HLT.out]; omega, hcm, fun x hx => HR.out.oct x (List.mem_of_mem_take hx), fun h => absurd rfl h, fun _ => HLT.out, fun _ => byt_take HY.out.1 n⟩
theorem sq_bad {α : Type} {f : Rdr α} {l : List Nat} {q : Nat} {x : α} (h : f l = .error q) (hq : q ≠ 0) : Sq f l 0 l (q : Int) x := .inr ⟨rfl, .inr ⟨q, h, rfl, hq⟩⟩
theorem rnum_any : RcC 27 nR (fun x => .int .i64 (x : Int)) (· <= 9007199254740992) := by
 intro w0 W r l err h
 obtain ⟨a, c, hb, hB, hnil, hlc, hcm⟩ := h.ex
 have HR : Hid (Rc w0 r W l err) := h
 have c0 : W.cell? ⟨r, 0, none⟩ = some (.slice a l.length c) := hb.cell 0
 have c1 : W.cell? ⟨r, 1, none⟩ = some (.int .i64 err) := hb.cell 1
 have HBk : Hid (Blk W r 72 [.slice a l.length c, .int .i64 err]) := hb
 by_cases he : err = 0
 case neg =>
  have hEb : (err != 0) = true := by simpa using he
  have HE0 : Hid (err ≠ 0) := he
  clear he hb hB hnil h
  go_enter Tryz.func27, Tryz.ntmps27
  go_wp2
  go_ret
  exact ⟨0, l, err, rfl, by omega, HR.out, World.grownBy.refl _ _, .inl ⟨HE0.out, rfl, rfl⟩⟩
 subst he
 obtain ⟨u, n, e, ht⟩ : ∃ u n e, ruv l 0 0 = (u, n, e) := ⟨_, _, _, rfl⟩
 have KU := ruvr_any a c l h.len W (hB.below h.bl) h.oct
 rw [ht] at KU
 replace KU : Calls Tryz.prog 46 #[.slice a l.length c] W fun e' w' => e' = .returned (.tuple #[.int .u64 (u : Int), .int .i64 (n : Int), .int .i64 (e : Int)]) /\ w' = W := KU
 have HU : Hid ((e = 0 -> u < 18446744073709551616 /\ n <= l.length /\ uvR l = .ok (u, l.drop n)) /\ (e ≠ 0 -> u = 0 /\ uvR l = .error e)) := by
  refine ⟨fun h0 => ?_, fun h0 => ?_⟩
  . subst h0
    obtain ⟨hu, hnl, _, _⟩ := ruv_good HR.out.oct (by rw [ht])
    rw [ht] at hu hnl
    exact ⟨hu, hnl, by unfold uvR; rw [ht]; rfl⟩
  . obtain ⟨hu, hn⟩ := ruv_bad l 0 0 (by rw [ht]; exact h0)
    rw [ht] at hu
    exact ⟨hu, by unfold uvR; rw [ht]; simp [h0]⟩
 have HBN : Hid (Byt w0 a l /\ (a = none -> c = 0)) := ⟨hB, hnil⟩
 have hlen := h.len
 clear hb hB hnil h ht
 go_enter Tryz.func27, Tryz.ntmps27
 go_wp2_with fail
 refine KU.mono ?_
 clear KU
 rintro e' w' ⟨rfl, hw⟩
 have hw' := hw.symm
 subst hw'
 clear hw
 by_cases he : e = 0
 case neg =>
  have HS : Hid (Sq nR l 0 l (e : Int) 0) := sq_bad (bind_no (HU.out.2 he).2) he
  have hb1 : ((e : Int) != 0) = true := bne_iff_ne.2 (by omega)
  have hb2 : ((e : Int) == 0) = false := beq_eq_false_iff_ne.2 (by omega)
  clear he HU
  go_wp2_with (refine st_one rfl 3 (.tmp 31) (.tmp 29) rfl r 1 72 _ (.int .i64 (e : Int)) rfl rfl rfl rfl (by simp) HBk.out s3 ?_)
  intro w1 b1 g1
  have HF : Hid (Rc w0 r w1 l (e : Int) /\ W.grownBy w1 (some r)) := ⟨HR.out.same b1 g1 HBN.out.1 HBN.out.2 hlc hcm HR.out.oct HR.out.len, g1⟩
  clear b1 g1 HBk
  go_wp2
  go_ret
  exact ⟨0, l, (e : Int), rfl, by omega, HF.out.1, HF.out.2, HS.out⟩
 subst he
 obtain ⟨hu, hnl, hru⟩ := HU.out.1 rfl
 by_cases hbig : 9007199254740992 < u
 . have hb2 : decide ((9007199254740992 : Int) < (u : Int)) = true := decide_eq_true (by omega)
   have HS : Hid (Sq nR l 0 l 3 0) := sq_bad (q := 3) (by unfold nR; rw [bind_ok hru, if_pos hbig]; rfl) (by decide)
   clear hru HU
   go_wp2_with (refine st_one rfl 3 (.tmp 31) (.tmp 29) rfl r 1 72 _ (.int .i64 3) rfl rfl rfl rfl (by simp) HBk.out s3 ?_)
   intro w1 b1 g1
   have HF : Hid (Rc w0 r w1 l 3 /\ W.grownBy w1 (some r)) := ⟨HR.out.same b1 g1 HBN.out.1 HBN.out.2 hlc hcm HR.out.oct HR.out.len, g1⟩
   clear b1 g1 HBk
   go_wp2
   go_ret
   exact ⟨0, l, 3, rfl, by omega, HF.out.1, HF.out.2, HS.out⟩
 . have hb2 : decide ((9007199254740992 : Int) < (u : Int)) = false := decide_eq_false (by omega)
   have HS : Hid (Sq nR l 0 (l.drop n) 0 u) := .inr ⟨rfl, .inl ⟨by unfold nR; rw [bind_ok hru, if_neg hbig]; rfl, rfl⟩⟩
   have hub : u <= 9007199254740992 := by omega
   clear hru HU
   go_wp2_with (refine sl_byt rfl (.tmp 36) (.tmp 37) rfl a c n l w0 _ rfl rfl rfl hnl hlc HBN.out.1 HBN.out.2 ?_)
   intro A' hA hAn
   have HA : Hid (Byt w0 A' (l.drop n) /\ (A' = none -> c - n = 0)) := ⟨hA, hAn⟩
   clear hA hAn
   go_wp2_with (refine st_one rfl 29 (.tmp 40) (.tmp 38) rfl r 0 72 _ (.slice A' (l.length - n) (c - n)) rfl rfl rfl rfl (by simp) HBk.out s29 ?_)
   intro w2 b2 g2
   have HF : Hid (Rc w0 r w2 (l.drop n) 0 /\ W.grownBy w2 (some r)) := by
    refine ⟨HR.out.same (a := A') (c := c - n) ?_ g2 HA.out.1 HA.out.2 (by rw [List.length_drop]; omega) (by omega) (oct_drop HR.out.oct n) (by rw [List.length_drop]; omega), g2⟩
    rw [List.length_drop]
    exact b2
   clear b2 g2 HBk HR
   go_wp2
   go_ret
   exact ⟨u, l.drop n, 0, rfl, hub, HF.out.1, HF.out.2, HS.out⟩
end Go.Proofs.YtmbglggodifboaaGreat.Sh
