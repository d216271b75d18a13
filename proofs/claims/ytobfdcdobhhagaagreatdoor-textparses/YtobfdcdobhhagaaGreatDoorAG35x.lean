/-
   · 
-/
import Derived.Test.YtobfdcdobhhagaaGreatDoorAG34x
namespace Go.Proofs.YtobfdcdobhhagaaGreatDoor
set_option maxHeartbeats 4000000
set_option maxRecDepth 8000
open Go.RowKit Math
set_option linter.unusedVariables false
set_option linter.unusedSimpArgs false
theorem rv_blob (dp : Int) (r : Nat) (s : ByteArray) (W : World) (hs : s.size <= 100000) (hb : Blk W r 79 [.string s, .bool false]) (hdp : dp <= 16) (T : List Nat) (hT : bts s = 35 :: T) :
 Calls Tryz.prog 36 #[.pointer (some ⟨r, 0, none⟩), .int .i64 dp] W fun e w' => ∃ (p : Vt) (na : Option Addr) (nc : Nat) (ka : Option Addr) (kc : Nat) (s' : ByteArray) (bad' : Bool), e = .returned (.agg #[.int .i64 p.1.k, .int .i64 p.1.n, .int .i64 p.1.s, .string p.1.t, .slice na p.1.ns.length nc, .slice ka p.2.list.length kc]) /\ Hid (Vq9 dp r W w' s s' false bad' p na nc ka kc) := by
 have he : s.toList.isEmpty = false := by
  cases hh : s.toList.isEmpty with
  | true =>
    have := (empty9 s).1 hh
    rw [<- bts_len, hT] at this
    simp at this
  | false => rfl
 have hd : decide ((16 : Int) < dp) = false := decide_eq_false (by omega)
 have hi := idx0 s 35 T hT
 have HT : Hid (bts s = 35 :: T) := hT
 clear hT
 have hrW : r < W.heap.size := hb.lt
 have HB : Hid (Blk W r 79 [.string s, .bool false]) := hb
 clear hb
 go_enter Tryz.func36, Tryz.ntmps36
 go_wp2_with (refine al_zero rfl 38 rfl zer z25 ?_)
 intro g4 w1 hg4 b1 gr1
 have HK1 : Hid (Kq r W w1 s false) := ⟨HB.out.kept gr1 (by simp), ⟨gr1.os, gr1.tape, gr1.output, gr1.size, fun x hx hne => gr1.block x hx (by simp)⟩⟩
 have HZ1 : Hid (Blk w1 g4 38 zer) := b1
 have hg4l : g4 < w1.heap.size := b1.lt
 have hW1 : W.heap.size <= w1.heap.size := gr1.size
 clear b1 gr1 HB
 have c0 : w1.cell? ⟨r, 0, none⟩ = some (.string s) := HK1.out.blk.cell 0
 have c1 : w1.cell? ⟨r, 1, none⟩ = some (.bool false) := HK1.out.blk.cell 1
 have K := rsign9 r s ⟨#[35]⟩ false (by omega) (by show (1 : Nat) <= 1000; omega) w1 HK1.out.blk
 go_wp2_with fail
 refine K.mono ?_
 rintro e w2 ⟨s1, b1, rfl, H1⟩
 have HK2 : Hid (Kq r W w2 s1 b1) := HK1.out.trans H1.out.kq
 have HZ2 : Hid (Blk w2 g4 38 zer) := HZ1.out.kept H1.out.kq.gr (by intro e; injection e with e; omega)
 have hW2 : W.heap.size <= w2.heap.size := HK2.out.gr.size
 have hg2 : g4 < w2.heap.size := HZ2.out.lt
 have hs1 : s1.size <= s.size := H1.out.le
 have HI0 : Hid (Ry r w2.heap.size W w2 s1 b1 (.slice none 0 0) [] /\ Bx (bts s) false (bts s1) b1 [] /\ Blk w2 g4 38 zer) := by
  refine ⟨⟨HK2.out, World.ownsRow_nil _ _ _ _, Nat.le_refl _⟩, Bx.start H1.out.rm fun h => ?_, HZ2.out⟩
  have := congrArg List.length (H1.out.eq h)
  rw [List.length_append, bts_len, bts_len] at this
  have h1 : (⟨#[35]⟩ : ByteArray).size = 1 := rfl
  rw [bts_len] at this
  rw [bts_len, bts_len]
  omega
 clear K H1 HK1 HZ1 HK2 HZ2 c0 c1 hi
 go_wp2
 go_loopw [6] (fun v wr => ∃ (sk : ByteArray) (bk : Bool) (acc : List Nat), sk.size <= s.size /\ acc.length <= 600000 /\ Hid (Ry r w2.heap.size W wr sk bk v acc /\ Bx (bts s) false (bts sk) bk acc /\ Blk wr g4 38 zer)) (fun _ wr => slq r wr)
 case atStart => exact ⟨s1, b1, [], hs1, by simp, HI0.out⟩
 case round =>
  clear HI0
  obtain ⟨sk, bk, acc, hsk, hac, HJ⟩ := hrel
  have HR : Hid (Ry r w2.heap.size W wr sk bk u6 acc) := HJ.out.1
  have HX : Hid (Bx (bts s) false (bts sk) bk acc) := HJ.out.2.1
  have HZ : Hid (Blk wr g4 38 zer) := HJ.out.2.2
  have hrB : r < w2.heap.size := by omega
  have c0 : wr.cell? ⟨r, 0, none⟩ = some (.string sk) := HR.out.kq.blk.cell 0
  have c1 : wr.cell? ⟨r, 1, none⟩ = some (.bool bk) := HR.out.kq.blk.cell 1
  have HM : Hid (slq r wr = if bk then 0 else sk.size + 1) := slq_of HR.out.kq.blk
  have hwr : w2.heap.size <= wr.heap.size := HR.out.sz
  clear HJ
  have HEnd : Hid ((bk = true ∨ ∀ c t, bts sk = c :: t -> isHx c = false) -> Vx dp (bts s) false (bts sk) bk (⟨7, 0, 0, ofB acc, []⟩, .nil) /\ WfV (⟨7, 0, 0, ofB acc, []⟩, .nil)) := fun h => by
   refine ⟨?_, wf_leaf9 7 0 0 (ofB acc) (by omega) (by omega) (by omega) (by rw [ofB_size]; omega)⟩
   have R : Rt pB (fun _ m => Stp m) (bts s) false (bts sk) bk (ofB acc) := by
    rcases h with h | h
    . subst h
      exact ⟨HX.out.suf, fun _ => rfl, fun hb y m hm el => by have := (HX.out.co hb y m hm el).1; cases this⟩
    . exact HX.out.done h
   have hp := HX.out.pr
   rw [HT.out] at R hp ⊢
   exact vx_blob R fun hb => by have := hp hb; rw [ofB_size]; exact this
  cases bk with
  | true =>
    obtain ⟨HV9, HW9⟩ : Hid (Vx dp (bts s) false (bts sk) true (⟨7, 0, 0, ofB acc, []⟩, .nil)) /\ Hid (WfV (⟨7, 0, 0, ofB acc, []⟩, .nil)) := HEnd.out (.inl rfl)
    have HVR : Hid (Vx dp (bts s) false (bts sk) true (⟨7, 0, 0, ofB acc, []⟩, .nil)) := HV9
    have HWF : Hid (WfV (⟨7, 0, 0, ofB acc, []⟩, .nil)) := HW9
    have HK : Hid (Kq r W wr sk true) := HR.out.kq
    obtain ⟨a, cc, hu, hbt, hn, _⟩ := HR.out.own.byt
    have hcv := conv_byt9 hbt HX.out.oc hn
    rw [<- hu] at hcv
    clear hbt hn hu HEnd HR HX HM HV9 HW9
    generalize ofB acc = X at *
    go_wp2_with (refine st_all rfl 38 (.tmp 4) (.tmp 94) rfl g4 38 zer [.int .i64 7, .int .i64 0, .int .i64 0, .string X, .slice none 0 0, .slice none 0 0] rfl rfl HZ.out rfl s25 (D6.ones rfl) ?_)
    intro w9 b9 g9
    have HB9 : Hid (Blk w9 g4 38 [.int .i64 7, .int .i64 0, .int .i64 0, .string X, .slice none 0 0, .slice none 0 0]) := b9
    have HQ : Hid (Vq9 dp r W w9 s sk false true (⟨7, 0, 0, X, []⟩, .nil) none 0 none 0) := ⟨kq_kept HK.out g9 hg4 hrW, ⟨[], vl_leaf9 _ _ _ _ _, fun x hx => by cases hx⟩, HWF.out, HVR.out⟩
    clear b9 g9 HZ HK HWF HVR
    go_wp2
    exact bodyPost_ret (D6.res_row rfl _ g4 38 _ _ rfl HB9.out Tryz.underlying38 rfl s25) rfl ⟨(⟨7, 0, 0, X, []⟩, .nil), none, 0, none, 0, sk, true, rfl, HQ.out⟩
  | false =>
    have hac2 : acc.length + 1 + sk.size <= s.size := by
     have := HX.out.pr rfl
     rw [bts_len, bts_len] at this
     omega
    by_cases h0 : sk.size = 0
    . have he2 : sk.toList.isEmpty = true := (empty9 sk).2 h0
      have HE : Hid (∀ c t, bts sk = c :: t -> isHx c = false) := fun c t e => by
       have := congrArg List.length e
       rw [bts_len, h0] at this
       simp at this
      clear h0
      obtain ⟨HV9, HW9⟩ : Hid (Vx dp (bts s) false (bts sk) false (⟨7, 0, 0, ofB acc, []⟩, .nil)) /\ Hid (WfV (⟨7, 0, 0, ofB acc, []⟩, .nil)) := HEnd.out (.inr HE.out)
      have HVR : Hid (Vx dp (bts s) false (bts sk) false (⟨7, 0, 0, ofB acc, []⟩, .nil)) := HV9
      have HWF : Hid (WfV (⟨7, 0, 0, ofB acc, []⟩, .nil)) := HW9
      have HK : Hid (Kq r W wr sk false) := HR.out.kq
      obtain ⟨a, cc, hu, hbt, hn, _⟩ := HR.out.own.byt
      have hcv := conv_byt9 hbt HX.out.oc hn
      rw [<- hu] at hcv
      clear HE hbt hn hu HEnd HR HX HM HV9 HW9
      generalize ofB acc = X at *
      go_wp2_with (refine st_all rfl 38 (.tmp 4) (.tmp 94) rfl g4 38 zer [.int .i64 7, .int .i64 0, .int .i64 0, .string X, .slice none 0 0, .slice none 0 0] rfl rfl HZ.out rfl s25 (D6.ones rfl) ?_)
      intro w9 b9 g9
      have HB9 : Hid (Blk w9 g4 38 [.int .i64 7, .int .i64 0, .int .i64 0, .string X, .slice none 0 0, .slice none 0 0]) := b9
      have HQ : Hid (Vq9 dp r W w9 s sk false false (⟨7, 0, 0, X, []⟩, .nil) none 0 none 0) := ⟨kq_kept HK.out g9 hg4 hrW, ⟨[], vl_leaf9 _ _ _ _ _, fun x hx => by cases hx⟩, HWF.out, HVR.out⟩
      clear b9 g9 HZ HK HWF HVR
      go_wp2
      exact bodyPost_ret (D6.res_row rfl _ g4 38 _ _ rfl HB9.out Tryz.underlying38 rfl s25) rfl ⟨(⟨7, 0, 0, X, []⟩, .nil), none, 0, none, 0, sk, false, rfl, HQ.out⟩
    have he2 : sk.toList.isEmpty = false := by
     cases hh : sk.toList.isEmpty with
     | true => exact absurd ((empty9 sk).1 hh) h0
     | false => rfl
    have hp : 0 < sk.size := by omega
    obtain ⟨c, hl, hc256⟩ : ∃ c, bts sk = c :: bts (sk.extract 1 sk.size) /\ c < 256 := ⟨_, bcons9 sk hp, (sk[0]'hp).toNat_lt⟩
    have hi2 := idx0 sk c _ hl
    have HL : Hid (bts sk = c :: bts (sk.extract 1 sk.size)) := hl
    have KD := rdigit9 c hc256 wr
    clear hl h0
    go_wp2_with fail
    refine KD.mono ?_
    rintro e w4 ⟨ix, rfl, rfl, HD⟩
    clear KD
    by_cases hx : 0 <= ix
    . have HHx : Hid (isHx c = true) := by
       rcases HD.out with ⟨d, h1, h2, _⟩ | ⟨_, h2⟩
       . show _ = _; rw [<- h2]; exact hxd_is h1
       . omega
      have KP := rpair9 r sk false (by omega) w4 HR.out.kq.blk
      clear HD hi2
      go_wp2_with fail
      refine KP.mono ?_
      rintro e w5 ⟨s5, b5, d, rfl, H5⟩
      have HR5 : Hid (Ry r w2.heap.size W w5 s5 b5 u6 acc) := HR.out.read hrB H5.out.kq
      have HZ5 : Hid (Blk w5 g4 38 zer) := HZ.out.kept H5.out.kq.gr (by intro e; injection e with e; omega)
      have hw5 : w2.heap.size <= w5.heap.size := HR5.out.sz
      clear KP c0 c1
      go_wp2_with (at_builtin; go_must (refine ap_bytes rfl (.tmp 87) (.tmp 90) rfl w2.heap.size _ acc rfl (HR5.out.own.alloc _) _ _ _ [d] rfl rfl (byt_lit w5 [d]) (by simp) (by simp; omega) (by simp; omega) ?_))
      intro v6 w6 A6
      have HR6 : Hid (Ry r w2.heap.size W w6 s5 b5 v6 (acc ++ [d])) := (HR5.out.below ((Below.refl _ _).alloc (Nat.le_refl _) _)).put hrB hW2 A6
      have HZ6 : Hid (Blk w6 g4 38 zer) := A6.blk (HZ5.out.alloc _) (fun e => by have := (World.ownsRow.lt HR5.out.own _ e).1; omega)
      have HX6 : Hid (Bx (bts s) false (bts s5) b5 (acc ++ [d])) := HX.out.step HL.out HHx.out H5.out.rp H5.out.lt fun h => by
       have := H5.out.pr h
       rw [bts_len, bts_len]
       omega
      have HM6 : Hid (slq r w6 < slq r w4) := by
       show _ < _
       rw [HM.out, slq_of HR6.out.kq.blk]
       have h1 := H5.out.pr
       cases b5 with
       | true => simp
       | false => have := h1 rfl; simp; omega
      have HS6 : Hid (s5.size <= s.size /\ (acc ++ [d]).length <= 600000) := by
       have := H5.out.le
       refine ⟨by omega, by simp; omega⟩
      clear A6 HR5 HZ5 HR HX HM H5 HZ HL HHx HEnd
      go_wp2
      go_roundw
      case rel => exact ⟨_, b5, _, HS6.out.1, HS6.out.2, HR6.out, HX6.out, HZ6.out⟩
      case measure => exact HM6.out
    . have HE : Hid (∀ c t, bts sk = c :: t -> isHx c = false) := fun c' t e => by
       rw [HL.out] at e
       injection e with e1 _
       rcases HD.out with ⟨d, _, _, h2⟩ | ⟨h1, _⟩
       . omega
       . rw [<- e1]; exact h1
      clear HD HL
      obtain ⟨HV9, HW9⟩ : Hid (Vx dp (bts s) false (bts sk) false (⟨7, 0, 0, ofB acc, []⟩, .nil)) /\ Hid (WfV (⟨7, 0, 0, ofB acc, []⟩, .nil)) := HEnd.out (.inr HE.out)
      have HVR : Hid (Vx dp (bts s) false (bts sk) false (⟨7, 0, 0, ofB acc, []⟩, .nil)) := HV9
      have HWF : Hid (WfV (⟨7, 0, 0, ofB acc, []⟩, .nil)) := HW9
      have HK : Hid (Kq r W w4 sk false) := HR.out.kq
      obtain ⟨a, cc, hu, hbt, hn, _⟩ := HR.out.own.byt
      have hcv := conv_byt9 hbt HX.out.oc hn
      rw [<- hu] at hcv
      clear HE hbt hn hu HEnd HR HX HM HV9 HW9
      generalize ofB acc = X at *
      go_wp2_with (refine st_all rfl 38 (.tmp 4) (.tmp 94) rfl g4 38 zer [.int .i64 7, .int .i64 0, .int .i64 0, .string X, .slice none 0 0, .slice none 0 0] rfl rfl HZ.out rfl s25 (D6.ones rfl) ?_)
      intro w9 b9 g9
      have HB9 : Hid (Blk w9 g4 38 [.int .i64 7, .int .i64 0, .int .i64 0, .string X, .slice none 0 0, .slice none 0 0]) := b9
      have HQ : Hid (Vq9 dp r W w9 s sk false false (⟨7, 0, 0, X, []⟩, .nil) none 0 none 0) := ⟨kq_kept HK.out g9 hg4 hrW, ⟨[], vl_leaf9 _ _ _ _ _, fun x hx => by cases hx⟩, HWF.out, HVR.out⟩
      clear b9 g9 HZ HK HWF HVR
      go_wp2
      exact bodyPost_ret (D6.res_row rfl _ g4 38 _ _ rfl HB9.out Tryz.underlying38 rfl s25) rfl ⟨(⟨7, 0, 0, X, []⟩, .nil), none, 0, none, 0, sk, false, rfl, HQ.out⟩
end Go.Proofs.YtobfdcdobhhagaaGreatDoor
namespace Go.Proofs.YtobfdcdobhhagaaGreatDoor
set_option maxHeartbeats 4000000
set_option maxRecDepth 8000
open Go.RowKit Math
set_option linter.unusedVariables false
set_option linter.unusedSimpArgs false
def nv (l : List Nat) : Nat := l.foldl (fun a c => a * 10 + (c - 48)) 0
theorem nv_snoc (l : List Nat) (c : Nat) : nv (l ++ [c]) = nv l * 10 + (c - 48) := by simp [nv]
theorem nv_le (l : List Nat) : ∀ m : List Nat, nv l <= nv (l ++ m) := by
 intro m
 induction m generalizing l with
 | nil => simp
 | cons c m ih =>
   have h := ih (l ++ [c])
   rw [nv_snoc, List.append_assoc] at h
   have e : [c] ++ m = c :: m := rfl
   rw [e] at h
   omega
theorem pD_nv : ∀ (k y : Nat), y <= k -> nv (pD y) = y /\ ∀ c ∈ pD y, 48 <= c /\ c <= 57 := by
 intro k
 induction k with
 | zero =>
   intro y hy
   obtain rfl : y = 0 := by omega
   have h1 : pD 0 = [48] := by decide +kernel
   rw [h1]
   exact ⟨rfl, fun c hc => by simp at hc; omega⟩
 | succ k ih =>
   intro y hy
   by_cases h : y < 10
   . have h1 : ∀ j : Fin 10, pD j.val = [48 + j.val] := by decide +kernel
     rw [h1 ⟨y, h⟩]
     exact ⟨by simp [nv], fun c hc => by simp at hc; omega⟩
   . have e : pD y = pD (y / 10) ++ [48 + y % 10] := by
      unfold pD dcB bts
      simp only
      rw [D6.dec_step (by omega), List.map_append, List.map_cons, List.map_nil]
      have : (UInt8.ofNat (48 + y % 10)).toNat = 48 + y % 10 := by
       rw [UInt8.toNat_ofNat']
       omega
      rw [this]
     obtain ⟨a1, a2⟩ := ih (y / 10) (by omega)
     rw [e, nv_snoc, a1]
     refine ⟨by omega, fun c hc => ?_⟩
     rw [List.mem_append] at hc
     rcases hc with hc | hc
     . exact a2 c hc
     . simp at hc; omega
structure Dx (l lk : List Nat) (bad badk : Bool) (n : Nat) : Prop where
 suf : ∃ c, l = c ++ lk
 st : bad = true -> badk = true
 co : bad = false -> ∀ y m, y <= 9007199254740992 -> Stp m -> l = 64 :: pD y ++ m -> badk = false /\ ∃ d1 d2, pD y = d1 ++ d2 /\ lk = d2 ++ m /\ n = nv d1
 pr : badk = false -> lk.length < l.length
theorem Dx.start {l l1 : List Nat} {bad bad1 : Bool} (R : Rm [64] l bad l1 bad1) (hp : bad1 = false -> 1 + l1.length <= l.length) : Dx l l1 bad bad1 0 :=
 ⟨R.suf, R.st, fun hb y m hy hm e => by
   obtain ⟨a1, _, a3⟩ := R.co hb () (pD y ++ m) trivial (by rw [e]; rfl)
   exact ⟨a1, [], pD y, rfl, a3, rfl⟩, fun h => by have := hp h; omega⟩
theorem Dx.step {l lk l2 : List Nat} {bad bad2 : Bool} {n c : Nat} (h : Dx l lk bad false n) (e : lk = c :: l2) (hc : 48 <= c /\ c <= 57) (h2 : bad2 = true -> 9007199254740992 < n * 10 + (c - 48)) : Dx l l2 bad bad2 (n * 10 + (c - 48)) := by
 refine ⟨suf_trans h.suf ⟨[c], by rw [e]; rfl⟩, fun hb => (by have := h.st hb; cases this), fun hb y m hy hm el => ?_, fun _ => ?_⟩
 . obtain ⟨_, d1, d2, a1, a2, a3⟩ := h.co hb y m hy hm el
   cases d2 with
   | nil =>
     rw [e] at a2
     exfalso
     have a2 : c :: l2 = m := a2
     rcases hm with hm | ⟨x, t, hm, hx⟩
     . rw [hm] at a2; cases a2
     . rw [hm] at a2
       injection a2 with a2 _
       omega
   | cons x d3 =>
     rw [e, List.cons_append] at a2
     injection a2 with b1 b2
     subst b1
     have hn : nv (d1 ++ [c]) = n * 10 + (c - 48) := by rw [nv_snoc, a3]
     have hy2 : nv (d1 ++ [c]) <= y := by
      have h3 := nv_le (d1 ++ [c]) d3
      rw [List.append_assoc, show [c] ++ d3 = c :: d3 from rfl, <- a1, (pD_nv y y (Nat.le_refl _)).1] at h3
      exact h3
     refine ⟨?_, d1 ++ [c], d3, by rw [a1]; simp, b2, hn.symm⟩
     cases bad2 with
     | false => rfl
     | true => have := h2 rfl; omega
 . have := h.pr rfl
   rw [e] at this
   simp only [List.length_cons] at this
   omega
theorem Dx.done {l lk : List Nat} {bad badk : Bool} {n : Nat} (h : Dx l lk bad badk n) (e : badk = true ∨ ∀ c t, lk = c :: t -> ¬ (48 <= c /\ c <= 57)) : Rt (fun y : Nat => 64 :: pD y) (fun y m => y <= 9007199254740992 /\ Stp m) l bad lk badk n := by
 refine ⟨h.suf, h.st, fun hb y m ⟨hy, hm⟩ el => ?_⟩
 obtain ⟨b1, d1, d2, a1, a2, a3⟩ := h.co hb y m hy hm el
 rcases e with e | e
 . rw [b1] at e; cases e
 refine ⟨b1, ?_⟩
 cases d2 with
 | nil =>
   rw [List.append_nil] at a1
   exact ⟨by rw [a3, <- a1]; exact (pD_nv y y (Nat.le_refl _)).1, a2⟩
 | cons x d3 =>
   exfalso
   exact e x (d3 ++ m) a2 ((pD_nv y y (Nat.le_refl _)).2 x (by rw [a1]; simp))
theorem vx_time2 {d : Int} {t l' : List Nat} {bad bad' : Bool} {n : Nat} (R : Rt (fun y : Nat => 64 :: pD y) (fun y m => y <= 9007199254740992 /\ Stp m) (64 :: t) bad l' bad' n) (hp : bad' = false -> l'.length < (64 :: t).length) : Vx d (64 :: t) bad l' bad' (lf 5 (n : Int) 0 em) := by
 refine vx_of (fun n : Nat => lf 5 (n : Int) 0 em) R (fun y m w1 hc hst e => ⟨y.1.n.toNat, ?_⟩) (fun h => by have := hp h; rw [ws_lf, show em.size = 0 from rfl]; omega)
 have hf := first_of w1 hc e
 obtain ⟨_, ho, _⟩ := ckv9 hc
 obtain ⟨_, a1, a2, a3, a4, a5⟩ := form9 (own_fine ho).1
 have k1 : y.1.k = 5 := by unfold fst9 at hf; omega
 have hn : 0 <= y.1.n /\ y.1.n <= 9007199254740992 := by
  have := (own_fine ho).1
  unfold formed at this
  simp [k1] at this
  omega
 have ey : y = lf 5 y.1.n 0 em := by
  have h := flat9 hc (by omega) (by omega)
  rw [k1, a2 (by omega), a3 (by omega) (by omega)] at h
  exact h
 have ep : prV y = 64 :: pD y.1.n.toNat := by unfold prV pH; simp [k1]
 have hnn : ((y.1.n.toNat : Nat) : Int) = y.1.n := by omega
 refine ⟨?_, ⟨by omega, hst⟩, ep⟩
 rw [hnn]
 exact ey
theorem rv_time (dp : Int) (r : Nat) (s : ByteArray) (W : World) (hs : s.size <= 100000) (hb : Blk W r 79 [.string s, .bool false]) (hdp : dp <= 16) (T : List Nat) (hT : bts s = 64 :: T) :
 Calls Tryz.prog 36 #[.pointer (some ⟨r, 0, none⟩), .int .i64 dp] W fun e w' => ∃ (p : Vt) (na : Option Addr) (nc : Nat) (ka : Option Addr) (kc : Nat) (s' : ByteArray) (bad' : Bool), e = .returned (.agg #[.int .i64 p.1.k, .int .i64 p.1.n, .int .i64 p.1.s, .string p.1.t, .slice na p.1.ns.length nc, .slice ka p.2.list.length kc]) /\ Hid (Vq9 dp r W w' s s' false bad' p na nc ka kc) := by
 have he : s.toList.isEmpty = false := by
  cases hh : s.toList.isEmpty with
  | true =>
    have := (empty9 s).1 hh
    rw [<- bts_len, hT] at this
    simp at this
  | false => rfl
 have hd : decide ((16 : Int) < dp) = false := decide_eq_false (by omega)
 have hi := idx0 s 64 T hT
 have HT : Hid (bts s = 64 :: T) := hT
 clear hT
 have hrW : r < W.heap.size := hb.lt
 have HB : Hid (Blk W r 79 [.string s, .bool false]) := hb
 clear hb
 go_enter Tryz.func36, Tryz.ntmps36
 go_wp2_with (refine al_zero rfl 38 rfl zer z25 ?_)
 intro g4 w1 hg4 b1 gr1
 have HK1 : Hid (Kq r W w1 s false) := ⟨HB.out.kept gr1 (by simp), ⟨gr1.os, gr1.tape, gr1.output, gr1.size, fun x hx hne => gr1.block x hx (by simp)⟩⟩
 have HZ1 : Hid (Blk w1 g4 38 zer) := b1
 have hg4l : g4 < w1.heap.size := b1.lt
 have hW1 : W.heap.size <= w1.heap.size := gr1.size
 clear b1 gr1 HB
 have c0 : w1.cell? ⟨r, 0, none⟩ = some (.string s) := HK1.out.blk.cell 0
 have c1 : w1.cell? ⟨r, 1, none⟩ = some (.bool false) := HK1.out.blk.cell 1
 have K := rsign9 r s ⟨#[64]⟩ false (by omega) (by show (1 : Nat) <= 1000; omega) w1 HK1.out.blk
 go_wp2_with fail
 refine K.mono ?_
 rintro e w2 ⟨s1, b1, rfl, H1⟩
 have HK2 : Hid (Kq r W w2 s1 b1) := HK1.out.trans H1.out.kq
 have HZ2 : Hid (Blk w2 g4 38 zer) := HZ1.out.kept H1.out.kq.gr (by intro e; injection e with e; omega)
 have hW2 : W.heap.size <= w2.heap.size := HK2.out.gr.size
 have hs1 : s1.size <= s.size := H1.out.le
 have HI0 : Hid (Kq r W w2 s1 b1 /\ Dx (bts s) (bts s1) false b1 0 /\ Blk w2 g4 38 zer) := by
  refine ⟨HK2.out, Dx.start H1.out.rm fun h => ?_, HZ2.out⟩
  have := congrArg List.length (H1.out.eq h)
  rw [List.length_append, bts_len, bts_len] at this
  have h1 : (⟨#[64]⟩ : ByteArray).size = 1 := rfl
  rw [bts_len] at this
  rw [bts_len, bts_len]
  omega
 clear K H1 HK1 HZ1 HK2 HZ2 c0 c1 hi
 go_wp2
 go_loopw [7] (fun v wr => ∃ (sk : ByteArray) (bk : Bool) (n : Nat), sk.size <= s.size /\ n <= 90071992547409930 /\ (bk = false -> n <= 9007199254740992) /\ v = .int .i64 (n : Int) /\ Hid (Kq r W wr sk bk /\ Dx (bts s) (bts sk) false bk n /\ Blk wr g4 38 zer)) (fun _ wr => slq r wr)
 case atStart => exact ⟨s1, b1, 0, hs1, by omega, fun _ => by omega, rfl, HI0.out⟩
 case round =>
  clear HI0
  obtain ⟨sk, bk, n, hsk, hn9, hn0, rfl, HJ⟩ := hrel
  have HR : Hid (Kq r W wr sk bk) := HJ.out.1
  have HX : Hid (Dx (bts s) (bts sk) false bk n) := HJ.out.2.1
  have HZ : Hid (Blk wr g4 38 zer) := HJ.out.2.2
  have c0 : wr.cell? ⟨r, 0, none⟩ = some (.string sk) := HR.out.blk.cell 0
  have c1 : wr.cell? ⟨r, 1, none⟩ = some (.bool bk) := HR.out.blk.cell 1
  have HM : Hid (slq r wr = if bk then 0 else sk.size + 1) := slq_of HR.out.blk
  clear HJ
  have HEnd : Hid ((bk = true ∨ ∀ c t, bts sk = c :: t -> ¬ (48 <= c /\ c <= 57)) -> Vx dp (bts s) false (bts sk) bk (⟨5, (n : Int), 0, ⟨#[]⟩, []⟩, .nil) /\ WfV (⟨5, (n : Int), 0, ⟨#[]⟩, []⟩, .nil)) := fun h => by
   refine ⟨?_, wf_leaf9 5 (n : Int) 0 ⟨#[]⟩ (by omega) (by omega) (by omega) (by decide)⟩
   have R := HX.out.done h
   have hp := HX.out.pr
   rw [HT.out] at R hp ⊢
   exact vx_time2 R hp
  cases bk with
  | true =>
    obtain ⟨HV9, HW9⟩ : Hid (Vx dp (bts s) false (bts sk) true (⟨5, (n : Int), 0, ⟨#[]⟩, []⟩, .nil)) /\ Hid (WfV (⟨5, (n : Int), 0, ⟨#[]⟩, []⟩, .nil)) := HEnd.out (.inl rfl)
    have HVR : Hid (Vx dp (bts s) false (bts sk) true (⟨5, (n : Int), 0, ⟨#[]⟩, []⟩, .nil)) := HV9
    have HWF : Hid (WfV (⟨5, (n : Int), 0, ⟨#[]⟩, []⟩, .nil)) := HW9
    have HK : Hid (Kq r W wr sk true) := HR.out
    clear HEnd HR HX HM HV9 HW9
    go_wp2_with (refine st_all rfl 38 (.tmp 4) (.tmp 152) rfl g4 38 zer [.int .i64 5, .int .i64 (n : Int), .int .i64 0, .string ⟨#[]⟩, .slice none 0 0, .slice none 0 0] rfl rfl HZ.out rfl s25 (D6.ones rfl) ?_)
    intro w9 b9 g9
    have HB9 : Hid (Blk w9 g4 38 [.int .i64 5, .int .i64 (n : Int), .int .i64 0, .string ⟨#[]⟩, .slice none 0 0, .slice none 0 0]) := b9
    have HQ : Hid (Vq9 dp r W w9 s sk false true (⟨5, (n : Int), 0, ⟨#[]⟩, []⟩, .nil) none 0 none 0) := ⟨kq_kept HK.out g9 hg4 hrW, ⟨[], vl_leaf9 _ _ _ _ _, fun x hx => by cases hx⟩, HWF.out, HVR.out⟩
    clear b9 g9 HZ HK HWF HVR
    go_wp2
    exact bodyPost_ret (D6.res_row rfl _ g4 38 _ _ rfl HB9.out Tryz.underlying38 rfl s25) rfl ⟨(⟨5, (n : Int), 0, ⟨#[]⟩, []⟩, .nil), none, 0, none, 0, sk, true, rfl, HQ.out⟩
  | false =>
    have hn53 : n <= 9007199254740992 := hn0 rfl
    clear hn0
    by_cases h0 : sk.size = 0
    . have he2 : sk.toList.isEmpty = true := (empty9 sk).2 h0
      have HE : Hid (∀ c t, bts sk = c :: t -> ¬ (48 <= c /\ c <= 57)) := fun c t e => by
       have := congrArg List.length e
       rw [bts_len, h0] at this
       simp at this
      clear h0
      obtain ⟨HV9, HW9⟩ : Hid (Vx dp (bts s) false (bts sk) false (⟨5, (n : Int), 0, ⟨#[]⟩, []⟩, .nil)) /\ Hid (WfV (⟨5, (n : Int), 0, ⟨#[]⟩, []⟩, .nil)) := HEnd.out (.inr HE.out)
      have HVR : Hid (Vx dp (bts s) false (bts sk) false (⟨5, (n : Int), 0, ⟨#[]⟩, []⟩, .nil)) := HV9
      have HWF : Hid (WfV (⟨5, (n : Int), 0, ⟨#[]⟩, []⟩, .nil)) := HW9
      have HK : Hid (Kq r W wr sk false) := HR.out
      clear HE HEnd HR HX HM HV9 HW9
      go_wp2_with (refine st_all rfl 38 (.tmp 4) (.tmp 152) rfl g4 38 zer [.int .i64 5, .int .i64 (n : Int), .int .i64 0, .string ⟨#[]⟩, .slice none 0 0, .slice none 0 0] rfl rfl HZ.out rfl s25 (D6.ones rfl) ?_)
      intro w9 b9 g9
      have HB9 : Hid (Blk w9 g4 38 [.int .i64 5, .int .i64 (n : Int), .int .i64 0, .string ⟨#[]⟩, .slice none 0 0, .slice none 0 0]) := b9
      have HQ : Hid (Vq9 dp r W w9 s sk false false (⟨5, (n : Int), 0, ⟨#[]⟩, []⟩, .nil) none 0 none 0) := ⟨kq_kept HK.out g9 hg4 hrW, ⟨[], vl_leaf9 _ _ _ _ _, fun x hx => by cases hx⟩, HWF.out, HVR.out⟩
      clear b9 g9 HZ HK HWF HVR
      go_wp2
      exact bodyPost_ret (D6.res_row rfl _ g4 38 _ _ rfl HB9.out Tryz.underlying38 rfl s25) rfl ⟨(⟨5, (n : Int), 0, ⟨#[]⟩, []⟩, .nil), none, 0, none, 0, sk, false, rfl, HQ.out⟩
    have he2 : sk.toList.isEmpty = false := by
     cases hh : sk.toList.isEmpty with
     | true => exact absurd ((empty9 sk).1 hh) h0
     | false => rfl
    have hp : 0 < sk.size := by omega
    obtain ⟨c, hl, hc256⟩ : ∃ c, bts sk = c :: bts (sk.extract 1 sk.size) /\ c < 256 := ⟨_, bcons9 sk hp, (sk[0]'hp).toNat_lt⟩
    have hi2 := idx0 sk c _ hl
    have HL : Hid (bts sk = c :: bts (sk.extract 1 sk.size)) := hl
    have HZs : Hid ((sk.extract 1 sk.size).size + 1 = sk.size) := by show _ = _; rw [ByteArray.size_extract]; omega
    have h1i : (1 : Int) <= (sk.size : Int) := by omega
    clear hl h0
    by_cases h48 : 48 <= c
    case neg =>
     have h48i : ¬ (48 : Int) <= (c : Int) := by omega
     have HE : Hid (∀ c t, bts sk = c :: t -> ¬ (48 <= c /\ c <= 57)) := fun c' t e => by
      rw [HL.out] at e
      injection e with e1 _
      omega
     clear HL HZs
     obtain ⟨HV9, HW9⟩ : Hid (Vx dp (bts s) false (bts sk) false (⟨5, (n : Int), 0, ⟨#[]⟩, []⟩, .nil)) /\ Hid (WfV (⟨5, (n : Int), 0, ⟨#[]⟩, []⟩, .nil)) := HEnd.out (.inr HE.out)
     have HVR : Hid (Vx dp (bts s) false (bts sk) false (⟨5, (n : Int), 0, ⟨#[]⟩, []⟩, .nil)) := HV9
     have HWF : Hid (WfV (⟨5, (n : Int), 0, ⟨#[]⟩, []⟩, .nil)) := HW9
     have HK : Hid (Kq r W wr sk false) := HR.out
     clear HE HEnd HR HX HM HV9 HW9
     go_wp2_with (refine st_all rfl 38 (.tmp 4) (.tmp 152) rfl g4 38 zer [.int .i64 5, .int .i64 (n : Int), .int .i64 0, .string ⟨#[]⟩, .slice none 0 0, .slice none 0 0] rfl rfl HZ.out rfl s25 (D6.ones rfl) ?_)
     intro w9 b9 g9
     have HB9 : Hid (Blk w9 g4 38 [.int .i64 5, .int .i64 (n : Int), .int .i64 0, .string ⟨#[]⟩, .slice none 0 0, .slice none 0 0]) := b9
     have HQ : Hid (Vq9 dp r W w9 s sk false false (⟨5, (n : Int), 0, ⟨#[]⟩, []⟩, .nil) none 0 none 0) := ⟨kq_kept HK.out g9 hg4 hrW, ⟨[], vl_leaf9 _ _ _ _ _, fun x hx => by cases hx⟩, HWF.out, HVR.out⟩
     clear b9 g9 HZ HK HWF HVR
     go_wp2
     exact bodyPost_ret (D6.res_row rfl _ g4 38 _ _ rfl HB9.out Tryz.underlying38 rfl s25) rfl ⟨(⟨5, (n : Int), 0, ⟨#[]⟩, []⟩, .nil), none, 0, none, 0, sk, false, rfl, HQ.out⟩
    have h48i : (48 : Int) <= (c : Int) := by omega
    by_cases h57 : c <= 57
    case neg =>
     have h57i : ¬ (c : Int) <= 57 := by omega
     have HE : Hid (∀ c t, bts sk = c :: t -> ¬ (48 <= c /\ c <= 57)) := fun c' t e => by
      rw [HL.out] at e
      injection e with e1 _
      omega
     clear HL HZs
     obtain ⟨HV9, HW9⟩ : Hid (Vx dp (bts s) false (bts sk) false (⟨5, (n : Int), 0, ⟨#[]⟩, []⟩, .nil)) /\ Hid (WfV (⟨5, (n : Int), 0, ⟨#[]⟩, []⟩, .nil)) := HEnd.out (.inr HE.out)
     have HVR : Hid (Vx dp (bts s) false (bts sk) false (⟨5, (n : Int), 0, ⟨#[]⟩, []⟩, .nil)) := HV9
     have HWF : Hid (WfV (⟨5, (n : Int), 0, ⟨#[]⟩, []⟩, .nil)) := HW9
     have HK : Hid (Kq r W wr sk false) := HR.out
     clear HE HEnd HR HX HM HV9 HW9
     go_wp2_with (refine st_all rfl 38 (.tmp 4) (.tmp 152) rfl g4 38 zer [.int .i64 5, .int .i64 (n : Int), .int .i64 0, .string ⟨#[]⟩, .slice none 0 0, .slice none 0 0] rfl rfl HZ.out rfl s25 (D6.ones rfl) ?_)
     intro w9 b9 g9
     have HB9 : Hid (Blk w9 g4 38 [.int .i64 5, .int .i64 (n : Int), .int .i64 0, .string ⟨#[]⟩, .slice none 0 0, .slice none 0 0]) := b9
     have HQ : Hid (Vq9 dp r W w9 s sk false false (⟨5, (n : Int), 0, ⟨#[]⟩, []⟩, .nil) none 0 none 0) := ⟨kq_kept HK.out g9 hg4 hrW, ⟨[], vl_leaf9 _ _ _ _ _, fun x hx => by cases hx⟩, HWF.out, HVR.out⟩
     clear b9 g9 HZ HK HWF HVR
     go_wp2
     exact bodyPost_ret (D6.res_row rfl _ g4 38 _ _ rfl HB9.out Tryz.underlying38 rfl s25) rfl ⟨(⟨5, (n : Int), 0, ⟨#[]⟩, []⟩, .nil), none, 0, none, 0, sk, false, rfl, HQ.out⟩
    have h57i : (c : Int) <= 57 := by omega
    clear HEnd
    go_wp2_with (refine st_one rfl 9 (.tmp 145) (.tmp 143) rfl r 0 79 [.string sk, .bool false] (.string (sk.extract 1 sk.size)) rfl rfl rfl rfl (by simp) HR.out.blk sz9 ?_)
    intro w5 b5 g5
    have HR5 : Hid (Kq r W w5 (sk.extract 1 sk.size) false) := HR.out.trans ⟨b5, g5⟩
    have HZ5 : Hid (Blk w5 g4 38 zer) := HZ.out.kept g5 (by intro e; injection e with e; omega)
    clear b5 g5 HR HZ c0 c1 hi2
    by_cases hbig : 9007199254740992 < n * 10 + (c - 48)
    . have hbi : (9007199254740992 : Int) < (n : Int) * 10 + (c : Int) - 48 := by omega
      have HX6 : Hid (Dx (bts s) (bts (sk.extract 1 sk.size)) false true (n * 10 + (c - 48))) := HX.out.step HL.out ⟨h48, h57⟩ (fun _ => hbig)
      go_wp2_with (refine st_one rfl 4 (.tmp 150) (.const (.bool true)) rfl r 1 79 [.string (sk.extract 1 sk.size), .bool false] (.bool true) rfl rfl rfl rfl (by simp) HR5.out.blk sz4 ?_)
      intro w6 b6 g6
      have HR6 : Hid (Kq r W w6 (sk.extract 1 sk.size) true) := HR5.out.trans ⟨b6, g6⟩
      have HZ6 : Hid (Blk w6 g4 38 zer) := HZ5.out.kept g6 (by intro e; injection e with e; omega)
      have HM6 : Hid (slq r w6 < slq r wr) := by
       show _ < _
       rw [HM.out, slq_of HR6.out.blk]
       simp
      have HS6 : Hid ((sk.extract 1 sk.size).size <= s.size) := by have := HZs.out; show _ <= _; omega
      clear b6 g6 HR5 HZ5 HX HM HL HZs
      go_wp2
      go_roundw
      case rel => exact ⟨_, true, n * 10 + (c - 48), HS6.out, by omega, fun h => (by cases h), by go_num, HR6.out, HX6.out, HZ6.out⟩
      case measure => exact HM6.out
    . have hbi : ¬ (9007199254740992 : Int) < (n : Int) * 10 + (c : Int) - 48 := by omega
      have HX6 : Hid (Dx (bts s) (bts (sk.extract 1 sk.size)) false false (n * 10 + (c - 48))) := HX.out.step HL.out ⟨h48, h57⟩ (fun h => by cases h)
      have HM6 : Hid (slq r w5 < slq r wr) := by
       show _ < _
       rw [HM.out, slq_of HR5.out.blk]
       have := HZs.out
       simp
       omega
      have HS6 : Hid ((sk.extract 1 sk.size).size <= s.size) := by have := HZs.out; show _ <= _; omega
      clear HX HM HL HZs
      go_wp2
      go_roundw
      case rel => exact ⟨_, false, n * 10 + (c - 48), HS6.out, by omega, fun _ => by omega, by go_num, HR5.out, HX6.out, HZ5.out⟩
      case measure => exact HM6.out
end Go.Proofs.YtobfdcdobhhagaaGreatDoor
