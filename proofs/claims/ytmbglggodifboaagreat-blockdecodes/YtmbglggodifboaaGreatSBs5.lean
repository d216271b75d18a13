import Derived.Test.YtmbglggodifboaaGreatSBs3
import Derived.Test.YtmbglggodifboaaGreatSG45x
import Derived.Test.YtmbglggodifboaaGreatSG49x
set_option maxHeartbeats 4000000
set_option maxRecDepth 8000
set_option linter.unusedSimpArgs false
set_option linter.unusedVariables false
namespace Go.Proofs.YtmbglggodifboaaGreat.Sh
open Go Go.RowKit Math Mt
theorem bd_rdr2 (a : Act) (ap : Option Addr) (n cp : Nat) (hx : a.eval (.tmp 8) = .slice ap n cp) : Tryz.prog.built 72 ((#[(0, .tmp 8)] : Array (Nat × Operand)).map fun p => (p.1, a.eval p.2)).toList = some [Value.slice ap n cp, .int .i64 0].toArray := by
 simp only [List.map_toArray, List.map_cons, List.map_nil, hx]
 kernel_rfl
structure DI (W wr : World) (r g2 g5 M : Nat) (hd : Bk) (lh : List Nat) (eh : Int) (k : Nat) (es : List En) (is : List It) (v : Value) (lk : List Nat) (ek : Int) : Prop where
 rb : Rc W r wr lk ek
 b2 : Blk wr g2 26 (bC noB none 0)
 b5 : Blk wr g5 26 (hC hd v)
 row : RowE M wr v is
 ise : is.map (·.e) = es
 sq : Sq (esR k) lh eh lk ek es
 isl : is.length = k
 m : M <= wr.heap.size
 len : ek = 0 -> k + lk.length <= lh.length
 kle : k <= lh.length + 1
theorem decB_err {l l' : List Nat} {q : Int} {B : Bk} (h : Sq bkR l 0 l' q B) (hq : q ≠ 0) : decB l = q /\ decK l = noB := by
 rcases h with ⟨h1, _⟩ | ⟨_, ⟨_, h2⟩ | ⟨x, h2, h3, h4⟩⟩
 . exact absurd rfl h1
 . exact absurd h2 hq
 . unfold decB decK
   rw [h2]
   exact ⟨h3.symm, rfl⟩
theorem decB_rest {l l' : List Nat} {B : Bk} (h : Sq bkR l 0 l' 0 B) (hl : l' ≠ []) : decB l = 3 /\ decK l = noB := by
 have h2 := (sq_ok h).2
 have e : decB l = 3 := by unfold decB; rw [h2]; simp only; rw [if_pos hl]
 refine ⟨e, ?_⟩
 unfold decK
 rw [h2]
 simp only
 rw [if_neg (by rw [e]; decide)]
theorem decB_chk {l : List Nat} {B : Bk} (hs : l.length <= 65536) (h : Sq bkR l 0 [] 0 B) : decB l = chkB B /\ (chkB B = 0 -> decK l = B) /\ (chkB B ≠ 0 -> decK l = noB) := by
 have h2 := (sq_ok h).2
 have e : decB l = chkB B := by
  unfold decB; rw [h2]; simp only
  rw [if_neg (by simp)]
  by_cases c : chkB B = 0
  . rw [if_neg (by simpa using c), if_neg (by omega), c]
  . rw [if_pos c]
 refine ⟨e, fun c => ?_, fun c => ?_⟩
 . unfold decK; rw [h2]; simp only; rw [if_pos (by rw [e, c])]
 . unfold decK; rw [h2]; simp only; rw [if_neg (by rw [e]; exact c)]
theorem q_any {C : World -> Prop} {a : Act} {o : Oper} {K : Act -> Prop} (T : TypeId) (x : Operand) (ho : o.op = .load 24 x) (b k : Nat) (hx : a.eval x = .pointer (some ⟨b, k, none⟩)) (v : Value) (hS : ∀ w, C w -> w.cell? ⟨b, k, none⟩ = some v)
 (hk : K (a.put o.dst v)) : o.quiet Tryz.prog a C K := q_cell 24 (.inr (.inr (.inl rfl))) x ho b k hx v hS hk
theorem rdec_any (W : World) (ap : Option Addr) (cp : Nat) (l : List Nat) (hB : Byt W ap l) (hnil : ap = none -> cp = 0) (hlc : l.length <= cp) (hcm : cp <= 9223372036854775807) (ho : Oct l) (hl : l.length <= 6000) :
 Calls Tryz.prog 14 #[.slice ap l.length cp] W fun e w' => ∃ (a : Option Addr) (c : Nat), e = .returned (.tuple #[.agg (bC (decK l) a c).toArray, .int .i64 (decB l)]) /\ Hid (DcR W w' l a) := by
 have HB : Hid (Byt W ap l) := hB
 have HN : Hid (ap = none -> cp = 0) := hnil
 have HO : Hid (Oct l) := ho
 clear hB hnil ho
 go_enter Tryz.func14, Tryz.ntmps14
 go_wp2_with (refine al_zero rfl 26 rfl (bC noB none 0) zBl ?_)
 intro g2 w1 l2 B2 G0
 have Z := (Below.refl W.heap.size W).grown G0 (Nat.le_refl _) (by simp)
 clear G0
 go_wp2_with (first | (refine bd_w (by rfl) 72 #[(0, .tmp 8)] rfl [Value.slice ap l.length cp, .int .i64 0] (bd_rdr2 _ _ _ _ rfl) ?_) | (refine al_box rfl 72 (.tmp 9) rfl [Value.slice ap l.length cp, .int .i64 0] rfl ?_))
 intro r w2 l3 BR G0
 have s1 := Z.size
 have hr2 : g2 ≠ r := by have := B2.lt; omega
 have Z := Z.grown G0 Z.size (by simp)
 have B2 := B2.kept G0 (by simp)
 clear G0
 have RR : Rc W r w2 l 0 := ⟨⟨ap, cp, BR, HB.out, HN.out, hlc, hcm⟩, Z, by omega, HO.out, by omega⟩
 have hg2W : W.heap.size <= g2 := by omega
 clear BR Z
 go_wp2_with (refine al_zero rfl 26 rfl (bC noB none 0) zBl ?_)
 intro g5 w3 l5 B5 G0
 have n25 : g2 ≠ g5 := by have := B2.lt; omega
 have nr5 : r ≠ g5 := by have := RR.rlt; omega
 have hg5W : W.heap.size <= g5 := by have := RR.bl.size; omega
 have RR := RR.al G0
 have B2 := B2.kept G0 (by simp)
 clear G0 l5 l2 l3
 have K := rnum_any W w3 r l 0 RR
 clear RR
 go_wp2_with fail
 refine K.mono ?_
 clear K
 rintro e u0 ⟨ixx, l10, e10, rfl, hixx, H⟩
 have RR := H.out.1
 have B2 := B2.kept H.out.2.1 (fun e => by have := Option.some.inj e; omega)
 have B5 := B5.kept H.out.2.1 (fun e => by have := Option.some.inj e; omega)
 have S0 : Hid (Sq nR l 0 l10 e10 ixx) := H.out.2.2
 clear H
 go_wp2_with (refine st_one rfl 3 (.tmp 13) (.tmp 12) rfl g5 0 26 _ (.int .i64 (ixx : Int)) rfl rfl rfl rfl (by rw [bC_len zr_len]; decide) B5 s3 ?_)
 intro u0s B5' G0
 have RR := RR.st G0 nr5 hg5W
 have B2 := B2.kept G0 (fun e => n25 (Option.some.inj e))
 have B5 : Blk u0s g5 26 (bC ⟨(ixx : Int), 0, 0, zr, []⟩ none 0) := B5'
 clear B5' G0
 have K := rnum_any W u0s r l10 e10 RR
 clear RR
 go_wp2_with fail
 refine K.mono ?_
 clear K
 rintro e u1 ⟨tmx, l11, e11, rfl, htmx, H⟩
 have RR := H.out.1
 have B2 := B2.kept H.out.2.1 (fun e => by have := Option.some.inj e; omega)
 have B5 := B5.kept H.out.2.1 (fun e => by have := Option.some.inj e; omega)
 have S1 : Hid (Sq nR l10 e10 l11 e11 tmx) := H.out.2.2
 clear H
 go_wp2_with (refine st_one rfl 3 (.tmp 16) (.tmp 15) rfl g5 1 26 _ (.int .i64 (tmx : Int)) rfl rfl rfl rfl (by rw [bC_len zr_len]; decide) B5 s3 ?_)
 intro u1s B5' G0
 have RR := RR.st G0 nr5 hg5W
 have B2 := B2.kept G0 (fun e => n25 (Option.some.inj e))
 have B5 : Blk u1s g5 26 (bC ⟨(ixx : Int), (tmx : Int), 0, zr, []⟩ none 0) := B5'
 clear B5' G0
 have K := rnum_any W u1s r l11 e11 RR
 clear RR
 go_wp2_with fail
 refine K.mono ?_
 clear K
 rintro e u2 ⟨txx, l12, e12, rfl, htxx, H⟩
 have RR := H.out.1
 have B2 := B2.kept H.out.2.1 (fun e => by have := Option.some.inj e; omega)
 have B5 := B5.kept H.out.2.1 (fun e => by have := Option.some.inj e; omega)
 have S2 : Hid (Sq nR l11 e11 l12 e12 txx) := H.out.2.2
 clear H
 go_wp2_with (refine st_one rfl 3 (.tmp 19) (.tmp 18) rfl g5 2 26 _ (.int .i64 (txx : Int)) rfl rfl rfl rfl (by rw [bC_len zr_len]; decide) B5 s3 ?_)
 intro u2s B5' G0
 have RR := RR.st G0 nr5 hg5W
 have B2 := B2.kept G0 (fun e => n25 (Option.some.inj e))
 have B5 : Blk u2s g5 26 (bC ⟨(ixx : Int), (tmx : Int), (txx : Int), zr, []⟩ none 0) := B5'
 clear B5' G0
 have K := rhsh_any W u2s r l12 e12 RR
 clear RR
 go_wp2_with fail
 refine K.mono ?_
 clear K
 rintro e v1 ⟨pvx, l13, e13, rfl, hpv, H⟩
 have RR := H.out.1
 have B2 := B2.kept H.out.2.1 (fun e => by have := Option.some.inj e; omega)
 have B5 := B5.kept H.out.2.1 (fun e => by have := Option.some.inj e; omega)
 have S3 : Hid (Sq (takeR 32) l12 e12 l13 e13 pvx) := H.out.2.2
 have HH : Hid (H32 pvx) := hpv
 clear H hpv
 have B5 : Blk v1 g5 26 ([.int .i64 (ixx : Int), .int .i64 (tmx : Int), .int .i64 (txx : Int)] ++ (nums .u8 zr ++ [.slice none 0 0])) := B5
 go_wp2_with (refine st_row rfl 23 (.tmp 22) (.tmp 21) rfl g5 3 26 [.int .i64 (ixx : Int), .int .i64 (tmx : Int), .int .i64 (txx : Int)] (nums .u8 zr) [.slice none 0 0] (nums .u8 pvx) rfl rfl rfl B5 (by rw [nums_length, nums_length, HH.out.1]; rfl) (sH HH.out.1) (nums_one _ _) ?_)
 intro v2 B5' G0
 have RR := RR.st G0 nr5 hg5W
 have B2 := B2.kept G0 (fun e => n25 (Option.some.inj e))
 have B5 : Blk v2 g5 26 (hC ⟨(ixx : Int), (tmx : Int), (txx : Int), pvx, []⟩ (.slice none 0 0)) := B5'
 clear B5' G0
 have K := rnum_any W v2 r l13 e13 RR
 clear RR
 go_wp2_with fail
 refine K.mono ?_
 clear K
 rintro e v3 ⟨n, l14, e14, rfl, hn, H⟩
 have RR := H.out.1
 have B2 := B2.kept H.out.2.1 (fun e => by have := Option.some.inj e; omega)
 have B5 := B5.kept H.out.2.1 (fun e => by have := Option.some.inj e; omega)
 have S4 : Hid (Sq nR l13 e13 l14 e14 n) := H.out.2.2
 clear H
 have HSB : Hid (∀ (l' : List Nat) (e' : Int) (es : List En), Sq (esR n) l14 e14 l' e' es -> Sq bkR l 0 l' e' ⟨ixx, tmx, txx, pvx, es⟩) := fun l' e' es q => sq_bind S0.out (sq_bind S1.out (sq_bind S2.out (sq_bind S3.out (sq_bind S4.out (sq_bind q (sq_ret _ _ _))))))
 have HL14 : Hid (e14 = 0 -> l14.length <= l.length) := fun h => by
  have g4 := sq_ok (h ▸ S4.out)
  have g3 := sq_ok (g4.1 ▸ S3.out)
  have g2 := sq_ok (g3.1 ▸ S2.out)
  have g1 := sq_ok (g2.1 ▸ S1.out)
  have g0 := sq_ok (g1.1 ▸ S0.out)
  obtain ⟨a1, a2⟩ := good_len good_n HO.out g0.2
  obtain ⟨b1, b2⟩ := good_len good_n a2 g1.2
  obtain ⟨c1, c2⟩ := good_len good_n b2 g2.2
  obtain ⟨d1, d2⟩ := good_len (good_take 32) c2 g3.2
  obtain ⟨f1, f2⟩ := good_len good_n d2 g4.2
  omega
 obtain ⟨hd, Hhd⟩ : ∃ hd : Bk, Hid ((⟨(ixx : Int), (tmx : Int), (txx : Int), pvx, []⟩ : Bk) = hd) := ⟨_, rfl⟩
 rw [Hhd.out] at B5
 have HPV : Hid (hd.pv.length = 32) := by rw [<- Hhd.out]; exact HH.out.1
 have hrg : r < v3.heap.size /\ g2 < v3.heap.size /\ g5 < v3.heap.size := ⟨RR.rlt, B2.lt, B5.lt⟩
 have HO14 : Hid (Oct l14 /\ l14.length <= 1000000) := ⟨RR.oct, RR.len⟩
 have HI0 : Hid (DI W v3 r g2 g5 v3.heap.size hd l14 e14 0 [] [] (.slice none 0 0) l14 e14) := ⟨RR, B2, B5, RowE.nil _ _, rfl, sq_ret _ _ _, rfl, Nat.le_refl _, fun _ => by omega, by omega⟩
 clear RR B2 B5 S0 S1 S2 S3 S4
 go_wp2
 go_loopw [7] (fun i wr => ∃ (k : Nat) (es : List En) (is : List It) (v : Value) (lk : List Nat) (ek : Int), k <= n /\ i = .int .i64 (k : Int) /\ Hid (DI W wr r g2 g5 v3.heap.size hd l14 e14 k es is v lk ek)) (fun i _ => n - (intOf i).toNat)
 case atStart => exact ⟨0, _, _, _, _, _, by omega, rfl, HI0.out⟩
 case round =>
  clear HI0
  obtain ⟨k, es, is, v, lk, ek, hk, rfl, HK⟩ := hrel
  obtain ⟨sa, sc, hbr, hq1, hq2, hq3, hq4⟩ := HK.out.rb.ex
  have ce : wr.cell? ⟨r, 1, none⟩ = some (.int .i64 ek) := hbr.cell 1
  have c0 : wr.cell? ⟨r, 0, none⟩ = some (.slice sa lk.length sc) := hbr.cell 0
  by_cases he : ek = 0
  case neg =>
   have hb1 : (ek != 0) = true := bne_iff_ne.2 he
   have hb2 : (ek == 0) = false := beq_eq_false_iff_ne.2 he
   have HQ : Hid (decB l = ek /\ decK l = noB) := decB_err (HSB.out lk ek es (by
    have h := HK.out.sq
    exact es_stop hk h he)) he
   have HRR := HK.out.rb
   have HB2 := HK.out.b2
   clear hbr hq1 hq2
   by_cases hlt : k < n
   . have hdl : decide ((k : Int) < (n : Int)) = true := decide_eq_true (by omega)
     obtain ⟨C, hCd⟩ : ∃ C : World -> Prop, C = fun V => V.cell? ⟨r, 1, none⟩ = some (.int .i64 ek) := ⟨_, rfl⟩
     have CN : Hid (∀ V, C V -> V.cell? ⟨r, 1, none⟩ = some (.int .i64 ek)) := fun V h => by rw [hCd] at h; exact h
     have CI : Hid (∀ V, V.cell? ⟨r, 1, none⟩ = some (.int .i64 ek) -> C V) := fun V h => by rw [hCd]; exact h
     have D0 : Below wr.heap.size wr { wr with drawn := wr.drawn + 1 } := Below.drew (Below.refl _ _)
     have HRv : Hid (Rc W r { wr with drawn := wr.drawn + 1 } lk ek) := HRR.be D0
     have HB2v : Hid (Blk { wr with drawn := wr.drawn + 1 } g2 26 (bC noB none 0)) := HB2.below D0 HB2.lt
     have C0 : Hid (C { wr with drawn := wr.drawn + 1 }) := by
      obtain ⟨sa, sc, hbr, _⟩ := HRv.out.ex
      exact CI.out _ (hbr.cell 1)
     clear hCd D0
     go_wp2_with fail
     clear ce c0
     refine region_calm C 6 (by kernel_rfl) ?_
     have hCp := cpo C0.out
     generalize ({ wr with drawn := wr.drawn + 1 } : World) = y0 at *
     refine seg 2 [0, 1, 2, 3, 4] rfl (by kernel_rfl) whole_blind (C0.out) (by kernel_rfl) ?_
     change wpQuiet _ _ _ _ (_ :: _ :: _ :: _ :: _ :: []) _
     repeat (first
      | go_big_quiet_skip
      | (go_big_quiet_want
         first
         | (refine q_bd 26 #[] rfl (bC noB none 0) (bd_blk _) ?_
            simp only [Act.put, pu]
            go_big_quiet_on)
         | (refine qb_nil (.tmp 76) rfl r 0 rfl ?_
            simp only [Act.put, pu]
            go_big_quiet_on)
         | (refine rc_fl (.tmp 77) rfl r rfl ?_
            simp only [Act.put, pu]
            go_big_quiet_on)
         | (refine q_cell 3 (.inl rfl) (.tmp 78) rfl r 1 rfl _ CN.out ?_
            simp only [Act.put, pu]
            go_big_quiet_on)
         | (go_big_quiet_op
            go_big_quiet_on)))
     refine wpQuiet_nil ?_
     refine lone_do (i := 5) 1 rfl (by kernel_rfl) rfl (by rfl) ?_
     intro K hK
     refine oper_sta 26 (.tmp 2) (.tmp 75) rfl rfl g2 26 (bC noB none 0) (bC noB none 0) rfl rfl HB2v.out rfl (sB zr_len _ _) (bC_one _ _ _) ?_
     intro y3 b3 gr3
     have HB3 : Hid (Blk y3 g2 26 (bC noB none 0)) := b3
     have hR3 := HRv.out.st gr3 (fun e => hr2 e.symm) hg2W
     have HF : Hid (DcR W y3 l none) := ⟨hR3.bl, by rw [HQ.out.2]; exact w_noB, by rw [HQ.out.2]; exact .inl rfl⟩
     have c3 : C y3 := by
      obtain ⟨sa, sc, hbr, _⟩ := hR3.ex
      exact CI.out _ (hbr.cell 1)
     clear b3 gr3 HB2v HRv C0 hR3
     refine hK _ _ c3 ?_
     simp only [Act.put, pu]
     have hCq := cpo c3
     refine lone_calm (i := 6) 0 rfl (by kernel_rfl) rfl rfl c3 ?_
     go_big_quiet_want
     go_big_quiet_op
     go_big_quiet_on
     refine wpQuiet_nil ?_
     refine anyC_done (by kernel_rfl) ⟨rfl, ?_⟩
     clear c3 hCq CN CI hCp
     go_wp2
     (try simp only [Exit.inBlock, Exit.then])
     refine bodyPost_ret (res_two rfl _ g2 26 _ _ rfl HB3.out Tryz.underlying26 rfl (sB zr_len _ _)) rfl ⟨none, 0, ?_, HF.out⟩
     rw [HQ.out.2, HQ.out.1]
     rfl
   . have hdl : decide ((k : Int) < (n : Int)) = false := decide_eq_false (by omega)
     obtain ⟨C, hCd⟩ : ∃ C : World -> Prop, C = fun V => V.cell? ⟨r, 1, none⟩ = some (.int .i64 ek) := ⟨_, rfl⟩
     have CN : Hid (∀ V, C V -> V.cell? ⟨r, 1, none⟩ = some (.int .i64 ek)) := fun V h => by rw [hCd] at h; exact h
     have CI : Hid (∀ V, V.cell? ⟨r, 1, none⟩ = some (.int .i64 ek) -> C V) := fun V h => by rw [hCd]; exact h
     have D0 : Below wr.heap.size wr { wr with drawn := wr.drawn + 1 } := Below.drew (Below.refl _ _)
     have HRv : Hid (Rc W r { wr with drawn := wr.drawn + 1 } lk ek) := HRR.be D0
     have HB2v : Hid (Blk { wr with drawn := wr.drawn + 1 } g2 26 (bC noB none 0)) := HB2.below D0 HB2.lt
     have C0 : Hid (C { wr with drawn := wr.drawn + 1 }) := by
      obtain ⟨sa, sc, hbr, _⟩ := HRv.out.ex
      exact CI.out _ (hbr.cell 1)
     clear hCd D0
     go_wp2_with fail
     clear ce c0
     refine region_calm C 6 (by kernel_rfl) ?_
     have hCp := cpo C0.out
     generalize ({ wr with drawn := wr.drawn + 1 } : World) = y0 at *
     refine seg 2 [0, 1, 2, 3, 4] rfl (by kernel_rfl) whole_blind (C0.out) (by kernel_rfl) ?_
     change wpQuiet _ _ _ _ (_ :: _ :: _ :: _ :: _ :: []) _
     repeat (first
      | go_big_quiet_skip
      | (go_big_quiet_want
         first
         | (refine q_bd 26 #[] rfl (bC noB none 0) (bd_blk _) ?_
            simp only [Act.put, pu]
            go_big_quiet_on)
         | (refine qb_nil (.tmp 76) rfl r 0 rfl ?_
            simp only [Act.put, pu]
            go_big_quiet_on)
         | (refine rc_fl (.tmp 77) rfl r rfl ?_
            simp only [Act.put, pu]
            go_big_quiet_on)
         | (refine q_cell 3 (.inl rfl) (.tmp 78) rfl r 1 rfl _ CN.out ?_
            simp only [Act.put, pu]
            go_big_quiet_on)
         | (go_big_quiet_op
            go_big_quiet_on)))
     refine wpQuiet_nil ?_
     refine lone_do (i := 5) 1 rfl (by kernel_rfl) rfl (by rfl) ?_
     intro K hK
     refine oper_sta 26 (.tmp 2) (.tmp 75) rfl rfl g2 26 (bC noB none 0) (bC noB none 0) rfl rfl HB2v.out rfl (sB zr_len _ _) (bC_one _ _ _) ?_
     intro y3 b3 gr3
     have HB3 : Hid (Blk y3 g2 26 (bC noB none 0)) := b3
     have hR3 := HRv.out.st gr3 (fun e => hr2 e.symm) hg2W
     have HF : Hid (DcR W y3 l none) := ⟨hR3.bl, by rw [HQ.out.2]; exact w_noB, by rw [HQ.out.2]; exact .inl rfl⟩
     have c3 : C y3 := by
      obtain ⟨sa, sc, hbr, _⟩ := hR3.ex
      exact CI.out _ (hbr.cell 1)
     clear b3 gr3 HB2v HRv C0 hR3
     refine hK _ _ c3 ?_
     simp only [Act.put, pu]
     have hCq := cpo c3
     refine lone_calm (i := 6) 0 rfl (by kernel_rfl) rfl rfl c3 ?_
     go_big_quiet_want
     go_big_quiet_op
     go_big_quiet_on
     refine wpQuiet_nil ?_
     refine anyC_done (by kernel_rfl) ⟨rfl, ?_⟩
     clear c3 hCq CN CI hCp
     go_wp2
     (try simp only [Exit.inBlock, Exit.then])
     refine bodyPost_ret (res_two rfl _ g2 26 _ _ rfl HB3.out Tryz.underlying26 rfl (sB zr_len _ _)) rfl ⟨none, 0, ?_, HF.out⟩
     rw [HQ.out.2, HQ.out.1]
     rfl
  subst he
  by_cases hlt : k < n
  case neg =>
   obtain rfl : k = n := by omega
   have HS : Hid (Sq bkR l 0 lk 0 ⟨ixx, tmx, txx, pvx, es⟩) := HSB.out lk 0 es HK.out.sq
   have hdl : decide ((k : Int) < (k : Int)) = false := decide_eq_false (by omega)
   by_cases hle : lk = []
   case neg =>
    have hpos : 0 < lk.length := List.length_pos_iff.2 hle
    have hdp : decide ((0 : Int) < (lk.length : Int)) = true := decide_eq_true (by omega)
    have HQ : Hid (decB l = 3 /\ decK l = noB) := decB_rest HS.out hle
    have HY : Hid (Byt W sa lk /\ (sa = none -> sc = 0)) := ⟨hq1, hq2⟩
    clear hq1 hq2
    go_wp2_with (refine st_one rfl 3 (.tmp 59) (.const (.int .i64 3)) rfl r 1 72 _ (.int .i64 3) rfl rfl rfl rfl (by simp) hbr s3 ?_)
    intro q1 b1 G1
    have RR := HK.out.rb.same b1 G1 HY.out.1 HY.out.2 hq3 hq4 HK.out.rb.oct HK.out.rb.len
    have B2 := HK.out.b2.kept G1 (fun e => hr2 (Option.some.inj e))
    have ce : q1.cell? ⟨r, 1, none⟩ = some (.int .i64 3) := b1.cell 1
    clear b1 G1 hbr c0
    obtain ⟨C, hCd⟩ : ∃ C : World -> Prop, C = fun V => V.cell? ⟨r, 1, none⟩ = some (.int .i64 3) := ⟨_, rfl⟩
    have CN : Hid (∀ V, C V -> V.cell? ⟨r, 1, none⟩ = some (.int .i64 3)) := fun V h => by rw [hCd] at h; exact h
    have CI : Hid (∀ V, V.cell? ⟨r, 1, none⟩ = some (.int .i64 3) -> C V) := fun V h => by rw [hCd]; exact h
    have D0 : Below q1.heap.size q1 { q1 with drawn := q1.drawn + 1 } := Below.drew (Below.refl _ _)
    have HRv : Hid (Rc W r { q1 with drawn := q1.drawn + 1 } lk 3) := RR.be D0
    have HB2v : Hid (Blk { q1 with drawn := q1.drawn + 1 } g2 26 (bC noB none 0)) := B2.below D0 B2.lt
    have C0 : Hid (C { q1 with drawn := q1.drawn + 1 }) := by
     obtain ⟨sa, sc, hbr, _⟩ := HRv.out.ex
     exact CI.out _ (hbr.cell 1)
    clear hCd D0
    go_wp2_with fail
    clear ce
    refine region_calm C 6 (by kernel_rfl) ?_
    have hCp := cpo C0.out
    generalize ({ q1 with drawn := q1.drawn + 1 } : World) = y0 at *
    refine seg 2 [0, 1, 2, 3, 4] rfl (by kernel_rfl) whole_blind (C0.out) (by kernel_rfl) ?_
    change wpQuiet _ _ _ _ (_ :: _ :: _ :: _ :: _ :: []) _
    repeat (first
     | go_big_quiet_skip
     | (go_big_quiet_want
        first
        | (refine q_bd 26 #[] rfl (bC noB none 0) (bd_blk _) ?_
           simp only [Act.put, pu]
           go_big_quiet_on)
        | (refine qb_nil (.tmp 76) rfl r 0 rfl ?_
           simp only [Act.put, pu]
           go_big_quiet_on)
        | (refine rc_fl (.tmp 77) rfl r rfl ?_
           simp only [Act.put, pu]
           go_big_quiet_on)
        | (refine q_cell 3 (.inl rfl) (.tmp 78) rfl r 1 rfl _ CN.out ?_
           simp only [Act.put, pu]
           go_big_quiet_on)
        | (go_big_quiet_op
           go_big_quiet_on)))
    refine wpQuiet_nil ?_
    refine lone_do (i := 5) 1 rfl (by kernel_rfl) rfl (by rfl) ?_
    intro K hK
    refine oper_sta 26 (.tmp 2) (.tmp 75) rfl rfl g2 26 (bC noB none 0) (bC noB none 0) rfl rfl HB2v.out rfl (sB zr_len _ _) (bC_one _ _ _) ?_
    intro y3 b3 gr3
    have HB3 : Hid (Blk y3 g2 26 (bC noB none 0)) := b3
    have hR3 := HRv.out.st gr3 (fun e => hr2 e.symm) hg2W
    have HF : Hid (DcR W y3 l none) := ⟨hR3.bl, by rw [HQ.out.2]; exact w_noB, by rw [HQ.out.2]; exact .inl rfl⟩
    have c3 : C y3 := by
     obtain ⟨sa, sc, hbr, _⟩ := hR3.ex
     exact CI.out _ (hbr.cell 1)
    clear b3 gr3 HB2v HRv C0 hR3
    refine hK _ _ c3 ?_
    simp only [Act.put, pu]
    have hCq := cpo c3
    refine lone_calm (i := 6) 0 rfl (by kernel_rfl) rfl rfl c3 ?_
    go_big_quiet_want
    go_big_quiet_op
    go_big_quiet_on
    refine wpQuiet_nil ?_
    refine anyC_done (by kernel_rfl) ⟨rfl, ?_⟩
    clear c3 hCq CN CI hCp
    go_wp2
    (try simp only [Exit.inBlock, Exit.then])
    refine bodyPost_ret (res_two rfl _ g2 26 _ _ rfl HB3.out Tryz.underlying26 rfl (sB zr_len _ _)) rfl ⟨none, 0, ?_, HF.out⟩
    rw [HQ.out.2, HQ.out.1]
    rfl
   subst hle
   have hdp : decide ((0 : Int) < (([] : List Nat).length : Int)) = false := rfl
   obtain ⟨Bf, HBf⟩ : ∃ Bf : Bk, Hid ((⟨(ixx : Int), (tmx : Int), (txx : Int), pvx, es⟩ : Bk) = Bf) := ⟨_, rfl⟩
   obtain ⟨av, cv, hv, hesm⟩ := HK.out.row.esm
   rw [HK.out.ise] at hesm
   have hisl : is.length = es.length := by rw [<- HK.out.ise, List.length_map]
   rw [hisl] at hv
   have HVV : Hid (v = .slice av es.length cv) := hv
   have HBes : Hid (Bf.es = es) := by show Bf.es = es; rw [<- HBf.out]
   have B5 : Blk wr g5 26 (bC Bf av cv) := by
    have h := HK.out.b5
    rw [hv] at h
    rw [<- HBf.out]
    rw [<- Hhd.out] at h
    exact h
   have HLf : Hid (Bf.pv.length = 32) := by rw [<- HBf.out]; exact HH.out.1
   have HBW : Hid (BkW Bf) := by
    rw [<- HBf.out]
    refine ⟨i64n hixx, i64n htmx, i64n htxx, HH.out, fun e he => ?_, ?_⟩
    . rw [<- HK.out.ise] at he
      obtain ⟨i, hi, rfl⟩ := List.mem_map.1 he
      exact HK.out.row.ew i hi
    . have h1 := HK.out.kle; have h2 := HO14.out.2; have h3 := HK.out.isl; show es.length <= _; omega
   have HWS : Hid (∀ e ∈ Bf.es, Go.Proofs.YtmbglggodifboaaGreat.ws e.v <= 100000) := fun e he => by
    rw [HBes.out] at he
    have g := sq_ok HK.out.sq
    have h1 := es_ws k HO14.out.1 g.2 e he
    have h2 := HL14.out g.1
    omega
   have HEM : Hid (EsM wr av Bf.es) := by rw [HBes.out]; exact hesm
   have HCH : Hid (decB l = chkB Bf /\ (chkB Bf = 0 -> decK l = Bf) /\ (chkB Bf ≠ 0 -> decK l = noB)) := by
    have h := HS.out
    rw [HBf.out] at h
    exact decB_chk (by omega) h
   have K := rchk_any Bf HBW.out HWS.out av cv wr HEM.out
   obtain ⟨EC, HEC⟩ : ∃ EC, Hid (chkB Bf = EC) := ⟨_, rfl⟩
   rw [HEC.out] at K HCH
   have HY : Hid (Byt W sa [] /\ (sa = none -> sc = 0)) := ⟨hq1, hq2⟩
   clear hq1 hq2 HS HSB HEC hesm hv hisl
   go_wp2_with (refine ld_w (by rfl) 26 (.tmp 5) rfl g5 0 rfl (bC Bf av cv) _ B5.all Tryz.underlying26 rfl (sB HLf.out _ _) ?_)
   refine K.mono ?_
   clear K ce c0
   rintro e' x1 ⟨rfl, Q⟩
   have hbr1 := hbr.below Q.out hbr.lt
   have RR1 := HK.out.rb.be Q.out
   have B21 := HK.out.b2.below Q.out HK.out.b2.lt
   have B51 := B5.below Q.out B5.lt
   have HR1 : Hid (RowE v3.heap.size x1 v is) := HK.out.row.be Q.out
   have HIS : Hid (is.map (·.e) = Bf.es) := by rw [HBes.out]; exact HK.out.ise
   clear Q hbr B5
   go_wp2_with (refine st_one rfl 3 (.tmp 69) (.tmp 67) rfl r 1 72 _ (.int .i64 EC) rfl rfl rfl rfl (by simp) hbr1 s3 ?_)
   intro q1 b1 G1
   have RR := RR1.same (l' := []) b1 G1 HY.out.1 HY.out.2 hq3 hq4 RR1.oct RR1.len
   have B2 := B21.kept G1 (fun e => hr2 (Option.some.inj e))
   have B5 := B51.kept G1 (fun e => nr5 (Option.some.inj e).symm)
   have HR2 : Hid (RowE v3.heap.size q1 v is) := HR1.out.kept G1 (fun x e => by have := Option.some.inj e; omega)
   have ce : q1.cell? ⟨r, 1, none⟩ = some (.int .i64 EC) := b1.cell 1
   clear b1 G1 hbr1 RR1 B21 B51 HR1
   by_cases h0 : EC = 0
   case neg =>
    have hb1 : (EC != 0) = true := bne_iff_ne.2 h0
    have HQ : Hid (decB l = EC /\ decK l = noB) := ⟨HCH.out.1, HCH.out.2.2 h0⟩
    clear B5
    obtain ⟨C, hCd⟩ : ∃ C : World -> Prop, C = fun V => V.cell? ⟨r, 1, none⟩ = some (.int .i64 EC) := ⟨_, rfl⟩
    have CN : Hid (∀ V, C V -> V.cell? ⟨r, 1, none⟩ = some (.int .i64 EC)) := fun V h => by rw [hCd] at h; exact h
    have CI : Hid (∀ V, V.cell? ⟨r, 1, none⟩ = some (.int .i64 EC) -> C V) := fun V h => by rw [hCd]; exact h
    have D0 : Below q1.heap.size q1 { q1 with drawn := q1.drawn + 1 } := Below.drew (Below.refl _ _)
    have HRv : Hid (Rc W r { q1 with drawn := q1.drawn + 1 } [] EC) := RR.be D0
    have HB2v : Hid (Blk { q1 with drawn := q1.drawn + 1 } g2 26 (bC noB none 0)) := B2.below D0 B2.lt
    have C0 : Hid (C { q1 with drawn := q1.drawn + 1 }) := by
     obtain ⟨sa, sc, hbr, _⟩ := HRv.out.ex
     exact CI.out _ (hbr.cell 1)
    clear hCd D0
    go_wp2_with fail
    clear ce
    refine region_calm C 6 (by kernel_rfl) ?_
    have hCp := cpo C0.out
    generalize ({ q1 with drawn := q1.drawn + 1 } : World) = y0 at *
    refine seg 2 [0, 1, 2, 3, 4] rfl (by kernel_rfl) whole_blind (C0.out) (by kernel_rfl) ?_
    change wpQuiet _ _ _ _ (_ :: _ :: _ :: _ :: _ :: []) _
    repeat (first
     | go_big_quiet_skip
     | (go_big_quiet_want
        first
        | (refine q_bd 26 #[] rfl (bC noB none 0) (bd_blk _) ?_
           simp only [Act.put, pu]
           go_big_quiet_on)
        | (refine qb_nil (.tmp 76) rfl r 0 rfl ?_
           simp only [Act.put, pu]
           go_big_quiet_on)
        | (refine rc_fl (.tmp 77) rfl r rfl ?_
           simp only [Act.put, pu]
           go_big_quiet_on)
        | (refine q_cell 3 (.inl rfl) (.tmp 78) rfl r 1 rfl _ CN.out ?_
           simp only [Act.put, pu]
           go_big_quiet_on)
        | (go_big_quiet_op
           go_big_quiet_on)))
    refine wpQuiet_nil ?_
    refine lone_do (i := 5) 1 rfl (by kernel_rfl) rfl (by rfl) ?_
    intro K hK
    refine oper_sta 26 (.tmp 2) (.tmp 75) rfl rfl g2 26 (bC noB none 0) (bC noB none 0) rfl rfl HB2v.out rfl (sB zr_len _ _) (bC_one _ _ _) ?_
    intro y3 b3 gr3
    have HB3 : Hid (Blk y3 g2 26 (bC noB none 0)) := b3
    have hR3 := HRv.out.st gr3 (fun e => hr2 e.symm) hg2W
    have HF : Hid (DcR W y3 l none) := ⟨hR3.bl, by rw [HQ.out.2]; exact w_noB, by rw [HQ.out.2]; exact .inl rfl⟩
    have c3 : C y3 := by
     obtain ⟨sa, sc, hbr, _⟩ := hR3.ex
     exact CI.out _ (hbr.cell 1)
    clear b3 gr3 HB2v HRv C0 hR3
    refine hK _ _ c3 ?_
    simp only [Act.put, pu]
    have hCq := cpo c3
    refine lone_calm (i := 6) 0 rfl (by kernel_rfl) rfl rfl c3 ?_
    go_big_quiet_want
    go_big_quiet_op
    go_big_quiet_on
    refine wpQuiet_nil ?_
    refine anyC_done (by kernel_rfl) ⟨rfl, ?_⟩
    clear c3 hCq CN CI hCp
    go_wp2
    (try simp only [Exit.inBlock, Exit.then])
    refine bodyPost_ret (res_two rfl _ g2 26 _ _ rfl HB3.out Tryz.underlying26 rfl (sB zr_len _ _)) rfl ⟨none, 0, ?_, HF.out⟩
    rw [HQ.out.2, HQ.out.1]
    rfl
   subst h0
   have HQ : Hid (decB l = 0 /\ decK l = Bf) := ⟨HCH.out.1, HCH.out.2.1 rfl⟩
   have HRB : Hid (Rc W r q1 [] 0) := RR
   clear RR
   go_wp2_with (first | (refine ld_w (by rfl) 26 (.tmp 5) rfl g5 0 rfl (bC Bf av cv) _ B5.all Tryz.underlying26 rfl (sB HLf.out _ _) ?_) | (refine st_all rfl 26 (.tmp 2) (.tmp 80) rfl g2 26 (bC noB none 0) (bC Bf av cv) rfl rfl B2 (by rw [bC_len HLf.out, bC_len zr_len]) (sB HLf.out _ _) (bC_one _ _ _) ?_))
   intro q2 b2 G2
   have HF : Hid (DcR W q2 l av) := by
    refine ⟨(HRB.out.st G2 (fun e => hr2 e.symm) hg2W).bl, by rw [HQ.out.2]; exact HBW.out, ?_⟩
    rw [HQ.out.2]
    have h := HR2.out.kept G2 (fun x e => by have := Option.some.inj e; omega)
    obtain ⟨a9, c9, hv9, he9⟩ := h.esm
    rw [HIS.out] at he9
    have hv8 := HVV.out
    rw [hv8] at hv9
    injection hv9 with z1 z2 z3
    rw [z1]; exact he9
   clear G2 HRB HR2 ce B2 B5
   go_wp2
   (try simp only [Exit.inBlock, Exit.then])
   refine bodyPost_ret (res_two rfl _ g2 26 _ _ rfl b2 Tryz.underlying26 rfl (sB HLf.out _ _)) rfl ⟨av, cv, ?_, HF.out⟩
   rw [HQ.out.1, HQ.out.2]
   rfl
  have hdl : decide ((k : Int) < (n : Int)) = true := decide_eq_true (by omega)
  have HLEN : Hid (k + lk.length <= l14.length) := HK.out.len rfl
  have c35 : wr.cell? ⟨g5, 35, none⟩ = some v := by have := HK.out.b5.cell 35; rw [hC_last HPV.out] at this; exact this
  obtain ⟨C, hCc⟩ : ∃ C : World -> Prop, C = fun V => V.cell? ⟨g5, 35, none⟩ = some v := ⟨_, rfl⟩
  have CN : Hid (∀ V, C V -> V.cell? ⟨g5, 35, none⟩ = some v) := fun V h => by rw [hCc] at h; exact h
  have CI : Hid (∀ V, V.cell? ⟨g5, 35, none⟩ = some v -> C V) := fun V h => by rw [hCc]; exact h
  have D0 : Below wr.heap.size wr { wr with drawn := wr.drawn + 1 } := Below.drew (Below.refl _ _)
  have HR0 : Hid (Rc W r { wr with drawn := wr.drawn + 1 } lk 0) := HK.out.rb.be D0
  have HB2 : Hid (Blk { wr with drawn := wr.drawn + 1 } g2 26 (bC noB none 0)) := HK.out.b2.below D0 HK.out.b2.lt
  have HB5 : Hid (Blk { wr with drawn := wr.drawn + 1 } g5 26 (hC hd v)) := HK.out.b5.below D0 HK.out.b5.lt
  have HROW : Hid (RowE v3.heap.size { wr with drawn := wr.drawn + 1 } v is) := HK.out.row.be D0
  have HM0' : Hid (∀ V : World, V = { wr with drawn := wr.drawn + 1 } -> v3.heap.size <= V.heap.size) := fun V h => by rw [h]; exact HK.out.m
  have HSQ : Hid (Sq (esR k) l14 e14 lk 0 es) := HK.out.sq
  have HIS : Hid (is.map (·.e) = es /\ is.length = k) := ⟨HK.out.ise, HK.out.isl⟩
  have hisk : is.length <= 1000000 := by have := HK.out.isl; have := HLEN.out; have := HO14.out.2; omega
  have C0 : Hid (C { wr with drawn := wr.drawn + 1 }) := CI.out _ c35
  clear hCc D0 HK hbr hq1 hq2
  go_wp2_with fail
  clear ce c0 c35
  refine region_calm C 7 (by kernel_rfl) ?_
  have hCp := cpo C0.out
  generalize ({ wr with drawn := wr.drawn + 1 } : World) = y0 at *
  have HM0 : Hid (v3.heap.size <= y0.heap.size) := HM0'.out y0 rfl
  clear HM0'
  refine seg 5 [0, 1, 2] rfl (by kernel_rfl) whole_blind (C0.out) (by kernel_rfl) ?_
  change wpQuiet _ _ _ _ (_ :: _ :: _ :: []) _
  repeat (first
   | go_big_quiet_skip
   | (go_big_quiet_want
      first
      | (refine q_any 24 (.tmp 37) rfl g5 35 rfl v CN.out ?_
         simp only [Act.put, pu]
         go_big_quiet_on)
      | (go_big_quiet_op
         go_big_quiet_on)))
  refine wpQuiet_nil ?_
  refine lone_do (i := 3) 4 rfl (by kernel_rfl) rfl (by rfl) ?_
  intro K hK
  refine oper_call 29 _ _ rfl #[.pointer (some ⟨r, 0, none⟩)] (by rw [List.map_toArray]; rfl) (enters Tryz.func29 (by kernel_rfl) rfl) (fun u w' => ∃ (x : En) (l' : List Nat) (err' : Int) (na : Option Addr) (nc : Nat) (ka : Option Addr) (kc : Nat), u = .agg (eC x na nc ka kc).toArray /\ Hid (Rc W r w' l' err' /\ y0.grownBy w' (some r) /\ Sq enR lk 0 l' err' x /\ VNew y0 w' x.v na nc ka kc /\ EnW x)) ((rentry_any W y0 r lk 0 HR0.out).mono (by rintro e w' ⟨x, l', err', na, nc, ka, kc, rfl, h⟩; exact ⟨_, rfl, x, l', err', na, nc, ka, kc, rfl, h⟩)) ?_
  rintro u y1 ⟨x, l', err', na, nc, ka, kc, rfl, H1⟩
  have hG1 := H1.out.2.1
  have B21 := HB2.out.kept hG1 (fun e => hr2 (Option.some.inj e))
  have B51 := HB5.out.kept hG1 (fun e => nr5 (Option.some.inj e).symm)
  have ROW1 : Hid (RowE v3.heap.size y1 v is) := HROW.out.kept hG1 (fun x e => by have := Option.some.inj e; omega)
  have HRR1 : Hid (Rc W r y1 l' err') := H1.out.1
  have VV : Hid (VNew y0 y1 x.v na nc ka kc) := H1.out.2.2.2.1
  have HEW : Hid (EnW x) := H1.out.2.2.2.2
  have HSX : Hid (Sq enR lk 0 l' err' x) := H1.out.2.2.1
  have hnv : Hid (∀ z, v.ownBlock = some z -> z < y0.heap.size) := fun z q => (World.ownsRow.lt HROW.out.row z q).2
  have hM1 : Hid (v3.heap.size <= y1.heap.size) := Nat.le_trans HM0.out hG1.size
  have C1 : Hid (C y1) := CI.out _ (by have := B51.cell 35; rw [hC_last HPV.out] at this; exact this)
  have HLe : Hid ((eC x na nc ka kc).length = 46) := eC_len HEW.out.h.1 _ _ _ _
  refine hK _ _ (C1.out) ?_
  clear hK K H1 hG1
  simp only [Act.put, pu]
  refine lone_do (i := 4) 3 rfl (by kernel_rfl) rfl (by rfl) ?_
  intro K hK
  refine oper_bse (.tmp 40) rfl (eC x na nc ka kc) HLe.out rfl ?_
  have ZA : Below y1.heap.size y1 (y1.alloc (.cells (eC x na nc ka kc).toArray 52)) := (Below.refl _ _).alloc (Nat.le_refl _) _
  have B52 := B51.below ZA B51.lt
  have B22 := B21.below ZA B21.lt
  have C2 : Hid (C (y1.alloc (.cells (eC x na nc ka kc).toArray 52))) := CI.out _ (by have := B52.cell 35; rw [hC_last HPV.out] at this; exact this)
  refine hK _ _ (C2.out) ?_
  clear hK K B51 B21
  simp only [Act.put, pu]
  refine lone_do (i := 5) 2 rfl (by kernel_rfl) rfl (by rfl) ?_
  intro K hK
  refine oper_ape (.tmp 38) (.tmp 41) rfl v3.heap.size v is.length (is.flatMap itC) rfl (ROW1.out.row.alloc _) y1.heap.size 1 1 (eC x na nc ka kc) rfl (by rw [HLe.out]) (fun j u hj => by rw [World.cell?_alloc_new]; show (eC x na nc ka kc).toArray[j]? = some u; rw [List.getElem?_toArray]; exact hj) (eC_one _ _ _ _ _) (by omega) (by have := hM1.out; simp; omega) ?_
  intro v7 y3 R7 G7 O7
  have hlo : ∀ z, v.ownBlock = some z -> v3.heap.size <= z := fun z e => (World.ownsRow.lt ROW1.out.row z e).1
  have B53 := B52.kept G7 (fun e => by have := hlo _ e.symm; omega)
  have B23 := B22.kept G7 (fun e => by have := hlo _ e.symm; omega)
  have RR3 := (HRR1.out.be ZA).row G7 (fun z e => by have := hlo z e; have := HM0.out; exact ⟨by omega, by omega⟩)
  have ROW3 : RowE v3.heap.size y3 v7 (is ++ [⟨x, na, nc, ka, kc⟩]) := by
   obtain ⟨LL, q1, q2⟩ := VV.out.be ZA
   refine (ROW1.out.be ZA).snoc (i := ⟨x, na, nc, ka, kc⟩) HEW.out q1 (fun z hz => ⟨by have := (q2 z hz).1; have := HM0.out; omega, (q2 z hz).2, fun e => ?_⟩) R7 G7 (O7.imp id fun e => by rw [e] <;> simp)
   have h1 := hnv.out z e
   have h2 := (q2 z hz).1
   omega
  have hM3 : v3.heap.size <= y3.heap.size := by have := hM1.out; have := ZA.size; have := G7.size; omega
  have C3 : Hid (C y3) := CI.out _ (by have := B53.cell 35; rw [hC_last HPV.out] at this; exact this)
  obtain ⟨a7, c7, e7, _⟩ := ROW3.esm
  have HROW3 : Hid (RowE v3.heap.size y3 v7 (is ++ [⟨x, na, nc, ka, kc⟩])) := ROW3
  refine hK _ _ (C3.out) ?_
  clear hK K B52 B22 R7 G7 O7 ZA ROW3
  simp only [Act.put, pu]
  refine seg 1 [6] rfl (by kernel_rfl) whole_blind (C3.out) (by kernel_rfl) ?_
  change wpQuiet _ _ _ _ (_ :: []) _
  repeat (first
   | go_big_quiet_skip
   | (go_big_quiet_want
      first
      | (go_big_quiet_op
         go_big_quiet_on)))
  refine wpQuiet_nil ?_
  refine lone_last (i := 7) 0 rfl rfl (by kernel_rfl) rfl (by rfl) ?_
  intro K hK
  refine oper_st1 24 (.tmp 43) (.tmp 42) rfl g5 35 26 _ v7 rfl rfl (by rw [e7]; rfl) (by rw [e7]; rfl) (by rw [hC_len HPV.out]; decide) B53 s24' ?_
  intro y4 b4 G4
  rw [hC_set HPV.out] at b4
  have HI : Hid (DI W y4 r g2 g5 v3.heap.size hd l14 e14 (k + 1) (es ++ [x]) (is ++ [⟨x, na, nc, ka, kc⟩]) v7 l' err') := by
   refine ⟨RR3.st G4 nr5 hg5W, B23.kept G4 (fun e => n25 (Option.some.inj e)), b4, HROW3.out.kept G4 (fun z e => by have := Option.some.inj e; omega), ?_, es_snoc HSQ.out HSX.out, ?_, by have := G4.size; omega, fun h0 => ?_, ?_⟩
   . rw [List.map_append, HIS.out.1]; rfl
   . rw [List.length_append, HIS.out.2]; rfl
   . have g := sq_ok (h0 ▸ HSX.out)
     have h1 := en_less HR0.out.oct HR0.out.len g.2
     have h2 := HLEN.out
     omega
   . have h2 := HLEN.out; omega
  refine hK _ _ ?_
  clear hK K b4 G4 B53 B23 RR3 HROW3 C0 C1 C2 C3 CN CI hCp
  simp only [Act.put]
  refine anyC_done (by kernel_rfl) ⟨rfl, ?_⟩
  go_wp2
  go_roundw
  case rel => exact ⟨k + 1, _, _, _, _, _, by omega, by go_num, HI.out⟩
  case measure => simp [intOf]; omega
end Go.Proofs.YtmbglggodifboaaGreat.Sh
