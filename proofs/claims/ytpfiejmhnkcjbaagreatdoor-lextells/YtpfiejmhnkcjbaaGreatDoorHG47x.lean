/-
   · 
-/
import Derived.Test.YtpfiejmhnkcjbaaGreatDoorHG43x
import Derived.Test.YtpfiejmhnkcjbaaGreatDoorHD6Prpi
import Derived.Test.YtpfiejmhnkcjbaaGreatDoorHD6Prpd
import Derived.Test.YtpfiejmhnkcjbaaGreatDoorHD6Prni
namespace Go.Proofs.YtpfiejmhnkcjbaaGreatDoor.D6
set_option maxHeartbeats 2000000
set_option maxRecDepth 8000
open Go.RowKit
set_option linter.unusedVariables false
theorem rP_nd (s R A B : ByteArray) (hR : R.size <= 100000) (h0 : 0 < s.size) (hs : (s[0]'h0).toNat = 45) (hsR : s.extract 1 s.size = R) (hc : Cuts R A B true) (w : World) :
 Calls Tryz.prog 42 #[.string s] w fun e w' => e = .returned (.tuple #[.agg #[.int .i64 (Po.k (parseV true true R A B)), .int .i64 (Po.n (parseV true true R A B)), .int .i64 (Po.s (parseV true true R A B)), .string ⟨#[]⟩, .slice none 0 0, .slice none 0 0], .int .i64 (Po.e (parseV true true R A B))]) /\ Grow w w' := by
 have HC : Hid (Cuts R A B true) := hc
 clear hc
 have hne : ((((s[0]'h0).toNat : Nat) : Int) == 45) = true := by simp; omega
 have HB0 : Hid (Blk (w.alloc (.cells #[.int .i64 0, .int .i64 0, .int .i64 0, .string ⟨#[]⟩, .slice none 0 0, .slice none 0 0] 41)) w.heap.size 41 [.int .i64 0, .int .i64 0, .int .i64 0, .string ⟨#[]⟩, .slice none 0 0, .slice none 0 0]) := blk_new w 41 [.int .i64 0, .int .i64 0, .int .i64 0, .string ⟨#[]⟩, .slice none 0 0, .slice none 0 0]
 have HG0 : Hid (Grow w (w.alloc (.cells #[.int .i64 0, .int .i64 0, .int .i64 0, .string ⟨#[]⟩, .slice none 0 0, .slice none 0 0] 41))) := (Grow.refl _).alloc _
 go_enter Tryz.func42, Tryz.ntmps42
 go_wp2
 go_loopw [6, 7, 8] (fun p dv i wr => ∃ (k : Nat) (pt : Int) (ds : List UInt8), k <= R.size /\ p = .int .i64 pt /\ i = .int .i64 (k : Int) /\ Hid (L1 w wr R k pt ds dv)) (fun _ _ i _ => R.size - (intOf i).toNat)
 case atStart => exact ⟨0, -1, [], by omega, rfl, rfl, ⟨Scan.nil, World.ownsRow_nil _ _ _ _, HB0.out, HG0.out, by simp⟩⟩
 case round =>
  obtain ⟨k, pt, ds, hk, rfl, rfl, HL⟩ := hrel
  clear HB0 HG0
  by_cases hlt : k < R.size
  case neg =>
   obtain rfl : k = R.size := by omega
   have HS : Hid (Scan R.data.toList pt ds) := by
    have := HL.out.sc
    rw [size_list, List.take_length] at this
    exact this
   obtain ⟨dA, dB, eds, ept⟩ := HS.out.cuts HC.out
   simp at ept
   have hn0 : (u8s ds).length = A.size + B.size := by simp only [u8s, List.length_map]; rw [eds, List.length_append, <- size_list, <- size_list]
   have HB : Hid (Blk wr w.heap.size 41 [.int .i64 0, .int .i64 0, .int .i64 0, .string ⟨#[]⟩, .slice none 0 0, .slice none 0 0]) := HL.out.blk
   have HG : Hid (Grow w wr) := HL.out.gr
   have HO : Hid (Own wr (w.heap.size + 1) u7 (u8s ds)) := HL.out.own
   have HD : Hid (ds = A.data.toList ++ B.data.toList) := eds
   have HdA : Hid (A.data.toList.all dig10 = true) := dA
   have HdB : Hid (B.data.toList.all dig10 = true) := dB
   have hRn : (u8s ds).length <= 100000 := by have := HL.out.len; simp only [u8s, List.length_map]; omega
   subst ept
   clear HL HS dA dB eds
   have hle : A.size + B.size <= 100000 := by omega
   by_cases hB1 : B.size = 0 ∨ 18 < B.size
   . have HN : Hid (parseV true true R A B = none) := pv_part hB1
     obtain ⟨ax, c, rfl, _, _, _, _⟩ := HO.out.byt
     rw [hn0]
     generalize A.size = na at *
     generalize B.size = nb at *
     have hsc : ((na + nb : Nat) : Int) - (na : Int) = (nb : Int) := by omega
     have hna : na <= 100000 := by omega
     have hnb : nb <= 100000 := by omega
     have hnn : na + nb <= 100000 := hle
     obtain ⟨n, hn⟩ : ∃ n, na + nb = n := ⟨_, rfl⟩
     rw [hn] at hsc hnn ⊢
     clear hn0 hRn hle hn
     by_cases hB2 : nb = 0
     . subst hB2
       go_wp2_with ((with_reducible refine st_pre (.tmp 2) (.tmp 80) ?_); refine st_all rfl 41 (.tmp 2) (.tmp 80) rfl w.heap.size 41 [.int .i64 0, .int .i64 0, .int .i64 0, .string ⟨#[]⟩, .slice none 0 0, .slice none 0 0] [.int .i64 0, .int .i64 0, .int .i64 0, .string ⟨#[]⟩, .slice none 0 0, .slice none 0 0] rfl rfl HB.out rfl sV (ones rfl) ?_)
       intro w2 y2 m2
       have HG2 : Hid (Grow w w2) := Below.grown HG.out m2 (Below.size HG.out) (by intro e he; injection he with he; omega)
       go_wp2
       rw [HN.out]
       exact bodyPost_ret (res_two rfl _ w.heap.size 41 _ _ rfl y2 Tryz.underlying41 rfl sV) rfl ⟨rfl, HG2.out⟩
     . have hB3 : 18 < nb := by omega
       go_wp2_with ((with_reducible refine st_pre (.tmp 2) (.tmp 80) ?_); refine st_all rfl 41 (.tmp 2) (.tmp 80) rfl w.heap.size 41 [.int .i64 0, .int .i64 0, .int .i64 0, .string ⟨#[]⟩, .slice none 0 0, .slice none 0 0] [.int .i64 0, .int .i64 0, .int .i64 0, .string ⟨#[]⟩, .slice none 0 0, .slice none 0 0] rfl rfl HB.out rfl sV (ones rfl) ?_)
       intro w2 y2 m2
       have HG2 : Hid (Grow w w2) := Below.grown HG.out m2 (Below.size HG.out) (by intro e he; injection he with he; omega)
       go_wp2
       rw [HN.out]
       exact bodyPost_ret (res_two rfl _ w.heap.size 41 _ _ rfl y2 Tryz.underlying41 rfl sV) rfl ⟨rfl, HG2.out⟩
   have hB1' : 0 < B.size /\ B.size <= 18 := by omega
   by_cases hA0 : A.size = 0
   . have HN : Hid (parseV true true R A B = none) := pv_empty hA0
     obtain ⟨ax, c, rfl, _, _, _, _⟩ := HO.out.byt
     rw [hn0, hA0]
     generalize B.size = nb at *
     obtain ⟨c1, c2⟩ := hB1'
     have hsc : ((0 + nb : Nat) : Int) - (0 : Int) = (nb : Int) := by omega
     obtain ⟨n, hn⟩ : ∃ n, 0 + nb = n := ⟨_, rfl⟩
     rw [hn] at hsc ⊢
     clear hn0 hRn hle hn hA0 hB1
     go_wp2_with ((with_reducible refine st_pre (.tmp 2) (.tmp 93) ?_); refine st_all rfl 41 (.tmp 2) (.tmp 93) rfl w.heap.size 41 [.int .i64 0, .int .i64 0, .int .i64 0, .string ⟨#[]⟩, .slice none 0 0, .slice none 0 0] [.int .i64 0, .int .i64 0, .int .i64 0, .string ⟨#[]⟩, .slice none 0 0, .slice none 0 0] rfl rfl HB.out rfl sV (ones rfl) ?_)
     intro w2 y2 m2
     have HG2 : Hid (Grow w w2) := Below.grown HG.out m2 (Below.size HG.out) (by intro e he; injection he with he; omega)
     go_wp2
     rw [HN.out]
     exact bodyPost_ret (res_two rfl _ w.heap.size 41 _ _ rfl y2 Tryz.underlying41 rfl sV) rfl ⟨rfl, HG2.out⟩
   have hpos : 0 < (u8s ds).length := by omega
   obtain ⟨g, cap, cur, rfl, hg, hblk, hcap, hcm, hcur⟩ := HO.out.blk hpos
   unfold maxLen at hcm
   have HBd : Hid (Blk wr g 5 cur) := hblk
   have HT : Hid (T2 true true R A B ds cur) := t2_of HC.out HdA.out HdB.out HD.out (by omega) (fun _ => hB1') hcur
   rw [hn0]
   rw [hn0] at hcap hRn
   have hD0 : 0 < ds.length := by have := HT.out.len; omega
   clear HO hblk hcur hpos HD HdA HdB hn0 HC
   obtain ⟨n, hn⟩ : ∃ n, A.size + B.size = n := ⟨_, rfl⟩
   have HLn : Hid (ds.length = n) := by show _ = _; rw [HT.out.len, hn]
   have hx0 : (ds[0]'hD0).toNat < 256 := (ds[0]'hD0).toNat_lt
   have c0 : wr.cell? ⟨g, 0, none⟩ = some (.int .u8 ((ds[0]'hD0).toNat : Int)) := by rw [HBd.out.cell, HT.out.cu 0 hD0]
   have HX0 : Hid (1 < A.size -> (ds[0]'hD0).toNat = 48 -> parseV true true R A B = none) := fun h1 h2 => HT.out.x0 hD0 h1 (UInt8.toNat_inj.1 h2)
   have HNu : Hid ((A.size = 1 ∨ ¬ (ds[0]'hD0).toNat = 48) -> someB ds = true -> parseV true true R A B = some (if 340282366920938463463374607431768211456 <= numL ds then .rg else rs (sgn true (numL ds)) B.size)) := fun h1 h2 => HT.out.num (fun _ => h1.imp id (fun h e => h (by rw [e]; rfl))) (fun _ => h2)
   have HNe : Hid (someB ds = false -> parseV true true R A B = none) := HT.out.neg rfl
   have HCu : Hid (∀ i (h : i < ds.length), cur[i]? = some (.int .u8 (ds[i].toNat : Int))) := HT.out.cu
   have HDg : Hid (∀ i (h : i < ds.length), dig10 ds[i] = true) := HT.out.dg
   clear HT
   have hAp : 0 < A.size := by omega
   generalize (ds[0]'hD0).toNat = x0 at *
   clear hD0
   have hsc : (n : Int) - (A.size : Int) = (B.size : Int) := by omega
   have hbs : B.size <= 18 := hB1'.2
   have hbp : 0 < B.size := hB1'.1
   have hle2 : n <= 100000 := by omega
   have hna2 : A.size <= n := by omega
   rw [hn] at hcap ⊢
   generalize A.size = na at *
   generalize B.size = nb at *
   clear hB1' hB1 hle hRn hn hA0
   by_cases hA1 : na = 1
   case' neg =>
    have hA2 : 1 < na := by omega
    by_cases hx48 : x0 = 48
    . have HN : Hid (parseV true true R A B = none) := HX0.out hA2 hx48
      subst hx48
      clear HX0 HNu HNe
      go_wp2_with ((with_reducible refine st_pre (.tmp 2) (.tmp 93) ?_); refine st_all rfl 41 (.tmp 2) (.tmp 93) rfl w.heap.size 41 [.int .i64 0, .int .i64 0, .int .i64 0, .string ⟨#[]⟩, .slice none 0 0, .slice none 0 0] [.int .i64 0, .int .i64 0, .int .i64 0, .string ⟨#[]⟩, .slice none 0 0, .slice none 0 0] rfl rfl HB.out rfl sV (ones rfl) ?_)
      intro w2 y2 m2
      have HG2 : Hid (Grow w w2) := Below.grown HG.out m2 (Below.size HG.out) (by intro e he; injection he with he; omega)
      go_wp2
      rw [HN.out]
      exact bodyPost_ret (res_two rfl _ w.heap.size 41 _ _ rfl y2 Tryz.underlying41 rfl sV) rfl ⟨rfl, HG2.out⟩
    have HNv : Hid (someB ds = true -> parseV true true R A B = some (if 340282366920938463463374607431768211456 <= numL ds then .rg else rs (sgn true (numL ds)) nb)) := HNu.out (.inr hx48)
    have hx48b : (((x0 : Nat) : Int) == 48) = false := by simp; omega
    clear HNu HX0 hA1
   case' pos =>
    have HNv : Hid (someB ds = true -> parseV true true R A B = some (if 340282366920938463463374607431768211456 <= numL ds then .rg else rs (sgn true (numL ds)) nb)) := HNu.out (.inl hA1)
    have hA2 : ¬ 1 < na := by omega
    clear HNu HX0 hA1 c0
   all_goals
    have lt_g : w.heap.size < g := by omega
    have H0 : Hid (Blk wr (w.heap.size) 41 [.int .i64 0, .int .i64 0, .int .i64 0, .string ⟨#[]⟩, .slice none 0 0, .slice none 0 0] /\ Blk wr (g) 5 cur /\ Grow w wr) := ⟨HB.out, HBd.out, HG.out⟩
    clear HB HBd HG
    go_wp2_with (refine al_zero rfl 75 rfl [.int .u64 0, .int .u64 0, .bool false] zR ?_)
    intro bw vv0 ss0 zz0 xx0
    go_wp2_with (refine st_all rfl 75 (.tmp 11) (.tmp 95) rfl bw 75 [.int .u64 0, .int .u64 0, .bool false] [.int .u64 0, .int .u64 0, .bool true] rfl rfl zz0 rfl sR (ones rfl) ?_)
    intro w2 yy0 mm0
    have lt_bw_0 : w.heap.size < bw := by have := (H0.out.1).lt; omega
    have lt_bw_1 : g < bw := by have := (H0.out.2.1).lt; omega
    have H1 : Hid (Blk w2 (w.heap.size) 41 [.int .i64 0, .int .i64 0, .int .i64 0, .string ⟨#[]⟩, .slice none 0 0, .slice none 0 0] /\ Blk w2 (g) 5 cur /\ Blk w2 (bw) 75 [.int .u64 0, .int .u64 0, .bool true] /\ Grow w w2) := ⟨(((H0.out.1).kept xx0 (by simp)).kept mm0 (by intro e; injection e with e; have := (H0.out.1).lt; omega)), (((H0.out.2.1).kept xx0 (by simp)).kept mm0 (by intro e; injection e with e; have := (H0.out.2.1).lt; omega)), yy0, (by have x1 := H0.out.2.2; have x2 : Below w.heap.size w vv0 := Below.grown x1 xx0 x1.size (by intro e he; cases he); exact Below.grown x2 mm0 x2.size (by intro e he; injection he with he; have := x1.size; omega))⟩
    clear H0 ss0 zz0 xx0 yy0 mm0
    go_wp2
    go_loopw [12, 13, 14] (fun sm ov i wq => ∃ (k h l : Nat), k <= n /\ sm = .bool (someB (ds.take k)) /\ ov = .bool (decide (340282366920938463463374607431768211456 <= numL (ds.take k))) /\ i = .int .i64 (k : Int) /\ Hid (L2 w wq true bw g cur ds k h l)) (fun _ _ i _ => n - (intOf i).toNat)
    case atStart => exact ⟨0, 0, 0, by omega, rfl, by simp [numL], rfl, ⟨⟨by simp [numL], by decide, by decide⟩, H1.out.1, H1.out.2.1, H1.out.2.2.1, H1.out.2.2.2⟩⟩
    case round =>
     clear H1
     obtain ⟨k, h, l, hk, rfl, rfl, rfl, HL⟩ := hrel
     by_cases hlt : k < n
     case neg =>
      have et : ds.take k = ds := List.take_of_length_le (by rw [HLn.out]; omega)
      have HW : Hid (Wd h l (numL ds % 340282366920938463463374607431768211456)) := by have := HL.out.wd; rw [et] at this; exact this
      have HB : Hid (Blk wr w.heap.size 41 [.int .i64 0, .int .i64 0, .int .i64 0, .string ⟨#[]⟩, .slice none 0 0, .slice none 0 0]) := HL.out.b0
      have HBw : Hid (Blk wr bw 75 [.int .u64 (h : Int), .int .u64 (l : Int), .bool true]) := HL.out.bw
      have HG : Hid (Grow w wr) := HL.out.gr
      rw [et]
      clear HL et HCu HDg
      by_cases hov : 340282366920938463463374607431768211456 <= numL ds
      . have hob : decide (340282366920938463463374607431768211456 <= numL ds) = true := decide_eq_true hov
        rw [hob]
        clear hob
        obtain ⟨sb, hsb⟩ : ∃ sb, someB ds = sb := ⟨_, rfl⟩
        rw [hsb]
        cases sb
        . have HN : Hid (parseV true true R A B = none) := HNe.out hsb
          clear HNv HNe hov HW
          go_wp2_with ((with_reducible refine st_pre (.tmp 2) (.tmp 143) ?_); refine st_all rfl 41 (.tmp 2) (.tmp 143) rfl w.heap.size 41 [.int .i64 0, .int .i64 0, .int .i64 0, .string ⟨#[]⟩, .slice none 0 0, .slice none 0 0] [.int .i64 0, .int .i64 0, .int .i64 0, .string ⟨#[]⟩, .slice none 0 0, .slice none 0 0] rfl rfl HB.out rfl sV (ones rfl) ?_)
          intro w2 y2 m2
          have HG2 : Hid (Grow w w2) := Below.grown HG.out m2 (Below.size HG.out) (by intro e he; injection he with he; omega)
          go_wp2
          rw [HN.out]
          exact bodyPost_ret (res_two rfl _ w.heap.size 41 _ _ rfl y2 Tryz.underlying41 rfl sV) rfl ⟨rfl, HG2.out⟩
        . have HN : Hid (parseV true true R A B = some .rg) := by
           have := HNv.out hsb
           rw [if_pos hov] at this
           exact this
          clear HNv HNe hov HW
          go_wp2_with ((with_reducible refine st_pre (.tmp 2) (.tmp 145) ?_); refine st_all rfl 41 (.tmp 2) (.tmp 145) rfl w.heap.size 41 [.int .i64 0, .int .i64 0, .int .i64 0, .string ⟨#[]⟩, .slice none 0 0, .slice none 0 0] [.int .i64 0, .int .i64 0, .int .i64 0, .string ⟨#[]⟩, .slice none 0 0, .slice none 0 0] rfl rfl HB.out rfl sV (ones rfl) ?_)
          intro w2 y2 m2
          have HG2 : Hid (Grow w w2) := Below.grown HG.out m2 (Below.size HG.out) (by intro e he; injection he with he; omega)
          go_wp2
          rw [HN.out]
          exact bodyPost_ret (res_two rfl _ w.heap.size 41 _ _ rfl y2 Tryz.underlying41 rfl sV) rfl ⟨rfl, HG2.out⟩
      . have hob : decide (340282366920938463463374607431768211456 <= numL ds) = false := decide_eq_false hov
        rw [hob]
        clear hob
        obtain ⟨sb, hsb⟩ : ∃ sb, someB ds = sb := ⟨_, rfl⟩
        rw [hsb]
        cases sb
        . have HN : Hid (parseV true true R A B = none) := HNe.out hsb
          clear HNv HNe hov HW
          go_wp2_with ((with_reducible refine st_pre (.tmp 2) (.tmp 143) ?_); refine st_all rfl 41 (.tmp 2) (.tmp 143) rfl w.heap.size 41 [.int .i64 0, .int .i64 0, .int .i64 0, .string ⟨#[]⟩, .slice none 0 0, .slice none 0 0] [.int .i64 0, .int .i64 0, .int .i64 0, .string ⟨#[]⟩, .slice none 0 0, .slice none 0 0] rfl rfl HB.out rfl sV (ones rfl) ?_)
          intro w2 y2 m2
          have HG2 : Hid (Grow w w2) := Below.grown HG.out m2 (Below.size HG.out) (by intro e he; injection he with he; omega)
          go_wp2
          rw [HN.out]
          exact bodyPost_ret (res_two rfl _ w.heap.size 41 _ _ rfl y2 Tryz.underlying41 rfl sV) rfl ⟨rfl, HG2.out⟩
        . have HN : Hid (parseV true true R A B = some (rs (sgn true (numL ds)) nb)) := by
           have := HNv.out hsb
           rw [if_neg hov] at this
           exact this
          have HW' : Wd h l (numL ds) := by
           have := HW.out
           rw [Nat.mod_eq_of_lt (by omega)] at this
           exact this
          obtain ⟨r, hr⟩ : ∃ r, rs (sgn true (numL ds)) nb = r := ⟨_, rfl⟩
          have kl := fun W => leastR_any true h l (numL ds) nb (by omega) HW' r hr W
          have KL : Hid (∀ W, Calls Tryz.prog 59 #[.agg #[.int .u64 (h : Int), .int .u64 (l : Int), .bool true], .int .i64 (nb : Int)] W fun e w' => e = .returned (.tuple #[.agg #[.int .i64 r.k, .int .i64 r.n, .int .i64 r.s, .string ⟨#[]⟩, .slice none 0 0, .slice none 0 0], .int .i64 r.e]) /\ Grow W w') := kl
          rw [hr] at HN
          have H0 : Hid (Blk wr (w.heap.size) 41 [.int .i64 0, .int .i64 0, .int .i64 0, .string ⟨#[]⟩, .slice none 0 0, .slice none 0 0] /\ Blk wr (bw) 75 [.int .u64 (h : Int), .int .u64 (l : Int), .bool true] /\ Grow w wr) := ⟨HB.out, HBw.out, HG.out⟩
          clear kl HW HW' HB HBw HG hr HNv HNe hov
          have q1_0 : wr.cell? ⟨bw, 0, none⟩ = some (.int .u64 (h : Int)) := (H0.out.2.1).cell 0
          have q1_1 : wr.cell? ⟨bw, 1, none⟩ = some (.int .u64 (l : Int)) := (H0.out.2.1).cell 1
          have q1_2 : wr.cell? ⟨bw, 2, none⟩ = some (.bool true) := (H0.out.2.1).cell 2
          go_wp2_with fail
          clear q1_0 q1_1 q1_2
          refine (KL.out _).mono ?_
          rintro e w2 ⟨rfl, g0⟩
          have H1 : Hid (Blk w2 (w.heap.size) 41 [.int .i64 0, .int .i64 0, .int .i64 0, .string ⟨#[]⟩, .slice none 0 0, .slice none 0 0] /\ Blk w2 (bw) 75 [.int .u64 (h : Int), .int .u64 (l : Int), .bool true] /\ Grow w w2) := ⟨(H0.out.1).grow g0, (H0.out.2.1).grow g0, Grow.trans (H0.out.2.2) g0⟩
          clear H0 g0
          go_wp2_with ((with_reducible refine st_pre (.tmp 2) (.tmp 149) ?_); refine st_all rfl 41 (.tmp 2) (.tmp 149) rfl (w.heap.size) 41 [.int .i64 0, .int .i64 0, .int .i64 0, .string ⟨#[]⟩, .slice none 0 0, .slice none 0 0] [.int .i64 r.k, .int .i64 r.n, .int .i64 r.s, .string ⟨#[]⟩, .slice none 0 0, .slice none 0 0] rfl rfl H1.out.1 rfl sV (ones rfl) ?_)
          intro w3 yy1 mm1
          have H2 : Hid (Blk w3 (w.heap.size) 41 [.int .i64 r.k, .int .i64 r.n, .int .i64 r.s, .string ⟨#[]⟩, .slice none 0 0, .slice none 0 0] /\ Blk w3 (bw) 75 [.int .u64 (h : Int), .int .u64 (l : Int), .bool true] /\ Grow w w3) := ⟨yy1, ((H1.out.2.1).kept mm1 (by intro e; injection e with e; omega)), (Below.grown (H1.out.2.2) mm1 (Below.size (H1.out.2.2)) (by intro e he; injection he with he; omega))⟩
          clear H1 yy1 mm1
          go_wp2
          rw [HN.out]
          exact bodyPost_ret (res_two rfl _ (w.heap.size) 41 _ _ rfl (H2.out.1) Tryz.underlying41 rfl sV) rfl ⟨rfl, H2.out.2.2⟩
     have hl : k < ds.length := by rw [HLn.out]; exact hlt
     obtain ⟨x, hx⟩ : ∃ x, (ds[k]'hl).toNat = x := ⟨_, rfl⟩
     have hd := HDg.out k hl
     have hd2 : 48 <= x /\ x <= 57 := by
      rw [<- hx]
      unfold dig10 at hd
      rwa [decide_eq_true_eq] at hd
     obtain ⟨x48, x57⟩ := hd2
     obtain ⟨m, hm⟩ : ∃ m, numL (ds.take k) % 340282366920938463463374607431768211456 = m := ⟨_, rfl⟩
     have hmlt : m < 340282366920938463463374607431768211456 := by rw [<- hm]; exact Nat.mod_lt _ (by decide)
     obtain ⟨h1, l1, W1⟩ := wd_of (m * 10 % 340282366920938463463374607431768211456) (Nat.mod_lt _ (by decide))
     obtain ⟨h2, l2, W2⟩ := wd_of ((m * 10 % 340282366920938463463374607431768211456 + (x - 48)) % 340282366920938463463374607431768211456) (Nat.mod_lt _ (by decide))
     have N2 := step_num hl hd hm (by rw [hx]; exact W2)
     rw [hx] at N2
     have S2 := some_snoc hl
     have sx : (ds[k]'hl != 48) = decide (¬ x = 48) := by
      rw [<- hx]
      by_cases e : ds[k]'hl = 48
      . rw [e]; rfl
      . have : ¬ (ds[k]'hl).toNat = 48 := fun h => e (UInt8.toNat_inj.1 h)
        simp [e, this]
     rw [sx] at S2
     obtain ⟨y, hy⟩ : ∃ y, x - 48 = y := ⟨_, rfl⟩
     rw [hy] at N2 W2
     have hxy : (x : Int) - 48 = (y : Int) := by omega
     have k1 := fun W => byR h l m 10 h1 l1 true _ (by have := HL.out.wd; rw [hm] at this; exact this) (by decide) W1 rfl W
     have k2 := fun W => addR_same h1 l1 _ 0 y y h2 l2 true _ W1 ⟨by omega, by omega, by omega⟩ W2 rfl W
     generalize decide (m * 10 < 340282366920938463463374607431768211456) = ok1 at *
     generalize decide (m * 10 % 340282366920938463463374607431768211456 + y < 340282366920938463463374607431768211456) = ok2 at *
     have K1 : Hid (∀ W, Calls Tryz.prog 57 #[.agg #[.int .u64 (h : Int), .int .u64 (l : Int), .bool true], .int .u64 10] W fun e w' => e = .returned (.tuple #[.agg #[.int .u64 (h1 : Int), .int .u64 (l1 : Int), .bool true], .bool ok1]) /\ Grow W w') := k1
     have K2 : Hid (∀ W, Calls Tryz.prog 58 #[.agg #[.int .u64 (h1 : Int), .int .u64 (l1 : Int), .bool true], .agg #[.int .u64 0, .int .u64 (y : Int), .bool true]] W fun e w' => e = .returned (.tuple #[.agg #[.int .u64 (h2 : Int), .int .u64 (l2 : Int), .bool true], .bool ok2]) /\ Grow W w') := k2
     have HW2 : Hid (Wd h2 l2 (numL (ds.take (k + 1)) % 340282366920938463463374607431768211456)) := N2.1
     have HOv : Hid ((decide (340282366920938463463374607431768211456 <= numL (ds.take k)) || !ok1 || !ok2) = decide (340282366920938463463374607431768211456 <= numL (ds.take (k + 1)))) := N2.2
     have HSm : Hid (someB (ds.take (k + 1)) = (someB (ds.take k) || decide (¬ x = 48))) := S2
     have HCk : Hid (cur[k]? = some (.int .u8 (x : Int))) := by rw [<- hx]; exact HCu.out k hl
     obtain ⟨sb, hsb⟩ : ∃ sb, someB (ds.take k) = sb := ⟨_, rfl⟩
     rw [hsb] at HSm ⊢
     obtain ⟨ov, hob⟩ : ∃ ov, decide (340282366920938463463374607431768211456 <= numL (ds.take k)) = ov := ⟨_, rfl⟩
     rw [hob] at HOv ⊢
     have H0 : Hid (Blk wr (w.heap.size) 41 [.int .i64 0, .int .i64 0, .int .i64 0, .string ⟨#[]⟩, .slice none 0 0, .slice none 0 0] /\ Blk wr (g) 5 cur /\ Blk wr (bw) 75 [.int .u64 (h : Int), .int .u64 (l : Int), .bool true] /\ Grow w wr) := ⟨HL.out.b0, HL.out.bd, HL.out.bw, HL.out.gr⟩
     clear k1 k2 HL N2 S2 sx hsb hob hd hx W1 W2 hm hmlt hy HCu HDg HNv HNe hl
     obtain ⟨bv, hbv⟩ : ∃ bv, decide (¬ x = 48) = bv := ⟨_, rfl⟩
     have hxb : (((x : Nat) : Int) != 48) = bv := by
      rw [<- hbv]
      by_cases e : x = 48
      . subst e; rfl
      . have e2 : ¬ ((x : Nat) : Int) = 48 := by omega
        simp [e, e2]
     have HXd : Hid (decide (¬ x = 48) = bv) := hbv
     clear hbv
     cases sb
     all_goals
      have cK : wr.cell? ⟨g, k, none⟩ = some (.int .u8 (x : Int)) := by rw [H0.out.2.1.cell]; exact HCk.out
      have q2_0 : wr.cell? ⟨bw, 0, none⟩ = some (.int .u64 (h : Int)) := (H0.out.2.2.1).cell 0
      have q2_1 : wr.cell? ⟨bw, 1, none⟩ = some (.int .u64 (l : Int)) := (H0.out.2.2.1).cell 1
      have q2_2 : wr.cell? ⟨bw, 2, none⟩ = some (.bool true) := (H0.out.2.2.1).cell 2
      go_wp2_with fail
      clear q2_0 q2_1 q2_2
      clear cK
      refine (K1.out _).mono ?_
      rintro e w2 ⟨rfl, g0⟩
      have H1 : Hid (Blk w2 (w.heap.size) 41 [.int .i64 0, .int .i64 0, .int .i64 0, .string ⟨#[]⟩, .slice none 0 0, .slice none 0 0] /\ Blk w2 (g) 5 cur /\ Blk w2 (bw) 75 [.int .u64 (h : Int), .int .u64 (l : Int), .bool true] /\ Grow w w2) := ⟨(H0.out.1).grow g0, (H0.out.2.1).grow g0, (H0.out.2.2.1).grow g0, Grow.trans (H0.out.2.2.2) g0⟩
      clear H0 g0
      go_wp2_with (refine al_zero rfl 75 rfl [.int .u64 0, .int .u64 0, .bool false] zR ?_)
      intro bx vv1 ss1 zz1 xx1
      go_wp2_with (refine st_all rfl 75 (.tmp 15) (.tmp 113) rfl bx 75 [.int .u64 0, .int .u64 0, .bool false] [.int .u64 (h1 : Int), .int .u64 (l1 : Int), .bool true] rfl rfl zz1 rfl sR (ones rfl) ?_)
      intro w3 yy1 mm1
      have lt_bx_0 : w.heap.size < bx := by have := (H1.out.1).lt; omega
      have lt_bx_1 : g < bx := by have := (H1.out.2.1).lt; omega
      have lt_bx_2 : bw < bx := by have := (H1.out.2.2.1).lt; omega
      have H2 : Hid (Blk w3 (w.heap.size) 41 [.int .i64 0, .int .i64 0, .int .i64 0, .string ⟨#[]⟩, .slice none 0 0, .slice none 0 0] /\ Blk w3 (g) 5 cur /\ Blk w3 (bw) 75 [.int .u64 (h : Int), .int .u64 (l : Int), .bool true] /\ Blk w3 (bx) 75 [.int .u64 (h1 : Int), .int .u64 (l1 : Int), .bool true] /\ Grow w w3) := ⟨(((H1.out.1).kept xx1 (by simp)).kept mm1 (by intro e; injection e with e; have := (H1.out.1).lt; omega)), (((H1.out.2.1).kept xx1 (by simp)).kept mm1 (by intro e; injection e with e; have := (H1.out.2.1).lt; omega)), (((H1.out.2.2.1).kept xx1 (by simp)).kept mm1 (by intro e; injection e with e; have := (H1.out.2.2.1).lt; omega)), yy1, (by have x1 := H1.out.2.2.2; have x2 : Below w.heap.size w vv1 := Below.grown x1 xx1 x1.size (by intro e he; cases he); exact Below.grown x2 mm1 x2.size (by intro e he; injection he with he; have := x1.size; omega))⟩
      clear H1 ss1 zz1 xx1 yy1 mm1
      go_wp2
      obtain ⟨C, hC⟩ : ∃ C : World -> Prop, C = fun W => Grow w3 W := ⟨_, rfl⟩
      have GW : Hid (∀ W, C W -> Grow w W) := fun W hW => by rw [hC] at hW; exact Grow.trans (H2.out.2.2.2.2) hW
      have B0 : Hid (∀ W, C W -> Blk W (w.heap.size) 41 [.int .i64 0, .int .i64 0, .int .i64 0, .string ⟨#[]⟩, .slice none 0 0, .slice none 0 0]) := fun W hW => by rw [hC] at hW; exact Blk.grow (H2.out.1) hW
      have B1 : Hid (∀ W, C W -> Blk W (g) 5 cur) := fun W hW => by rw [hC] at hW; exact Blk.grow (H2.out.2.1) hW
      have B2 : Hid (∀ W, C W -> Blk W (bw) 75 [.int .u64 (h : Int), .int .u64 (l : Int), .bool true]) := fun W hW => by rw [hC] at hW; exact Blk.grow (H2.out.2.2.1) hW
      have B3 : Hid (∀ W, C W -> Blk W (bx) 75 [.int .u64 (h1 : Int), .int .u64 (l1 : Int), .bool true]) := fun W hW => by rw [hC] at hW; exact Blk.grow (H2.out.2.2.2.1) hW
      have CG : Hid (∀ W W', C W -> Grow W W' -> C W') := fun W W' h1 h2 => by rw [hC] at h1 ⊢; exact h1.trans h2
      have CW : Hid (C { w3 with drawn := w3.drawn + 1 }) := by rw [hC]; exact (Grow.refl _).drew
      clear hC
      clear H2
      refine region_grow [14] (by kernel_rfl) ?_
      generalize ({ w3 with drawn := w3.drawn + 1 } : World) = v0 at *
      have hCp : ∀ p : Prop, (∀ W, C W -> p) ↔ p := fun p => ⟨fun h => h _ CW.out, fun h _ _ => h⟩
      refine segR 7 [0, 1, 2, 3, 4, 5, 6, 7, 8] rfl (by kernel_rfl) whole_blind CG.out CW.out (by kernel_rfl) ?_
      change wpQuiet _ _ _ _ (_ :: _ :: _ :: _ :: _ :: _ :: _ :: _ :: _ :: []) _
      repeat (first
       | go_big_quiet_skip
       | (go_big_quiet_want
          first
          | (refine q_load 75 (.tmp 15) rfl (bx) 0 rfl _ _ (fun W hW => (B3.out W hW).all) Tryz.underlying75 rfl sR ?_
             simp only [Act.put, List.setIfInBounds_toArray, List.set_cons_zero, List.set_cons_succ]
             go_big_quiet_on)
          | (refine q_byte (.tmp 119) rfl g k rfl _ (fun W hW => by rw [(B1.out W hW).cell]; exact HCk.out) ?_
             simp only [Act.put, List.setIfInBounds_toArray, List.set_cons_zero, List.set_cons_succ]
             go_big_quiet_on)
          | (go_big_quiet_op
             go_big_quiet_on)))
      refine wpQuiet_nil ?_
      refine callR (i := 9) 6 rfl (by kernel_rfl) whole_blind CG.out CW.out rfl (by kernel_rfl) rfl 58 _ _ _ rfl rfl #[.agg #[.int .u64 (h1 : Int), .int .u64 (l1 : Int), .bool true], .agg #[.int .u64 0, .int .u64 (y : Int), .bool true]] (by rw [List.map_toArray]; rfl) (enters Tryz.func58 (by kernel_rfl) rfl) _ (fun W hW => K2.out W) ?_
      simp only [Act.put, List.setIfInBounds_toArray, List.set_cons_zero, List.set_cons_succ]
      refine segR 4 [10, 11] rfl (by kernel_rfl) whole_blind CG.out CW.out (by kernel_rfl) ?_
      change wpQuiet _ _ _ _ (_ :: _ :: []) _
      repeat (first
       | go_big_quiet_skip
       | (go_big_quiet_want
          first
          | (go_big_quiet_op
             go_big_quiet_on)))
      refine wpQuiet_nil ?_
      have hCq := anyw_p v0
      refine segF 3 [12] rfl (by kernel_rfl) whole_blind (by decide +kernel) ?_
      change wpQuiet _ _ _ _ (_ :: []) _
      repeat (first
       | go_big_quiet_skip
       | (go_big_quiet_want
          first
          | (go_big_quiet_op
             go_big_quiet_on)))
      refine wpQuiet_nil ?_
      clear hCq
      refine newR (i := 13) 2 rfl (by kernel_rfl) rfl rfl 75 rfl [.int .u64 0, .int .u64 0, .bool false] zR ?_
      intro by_ va2 ga2 sa2 Ba2
      simp only [Act.put, List.setIfInBounds_toArray, List.set_cons_zero, List.set_cons_succ]
      refine storeR (i := 14) 1 rfl (by kernel_rfl) (by simp) rfl rfl 75 _ _ rfl (by_) 75 [.int .u64 0, .int .u64 0, .bool false] [.int .u64 (h2 : Int), .int .u64 (l2 : Int), .bool true] rfl rfl (Ba2) rfl sR (ones rfl) ?_
      intro vb2 Bb2 gb2
      simp only [Act.put]
      refine loneR (C := Grow vb2) (i := 15) 0 rfl (by kernel_rfl) rfl rfl (fun _ _ a b => Grow.trans a b) (Grow.refl _) ?_
      repeat (first | go_big_quiet_skip | (go_big_quiet_want; go_big_quiet_op; go_big_quiet_on))
      refine wpQuiet_nil ?_
      refine doneR (by kernel_rfl) ?_
      intro w4 gc2
      have HC := CW.out
      have lt_by__0 : w.heap.size < by_ := by have := (B0.out _ HC).lt; omega
      have lt_by__1 : g < by_ := by have := (B1.out _ HC).lt; omega
      have lt_by__2 : bw < by_ := by have := (B2.out _ HC).lt; omega
      have lt_by__3 : bx < by_ := by have := (B3.out _ HC).lt; omega
      have H3 : Hid (Blk w4 (w.heap.size) 41 [.int .i64 0, .int .i64 0, .int .i64 0, .string ⟨#[]⟩, .slice none 0 0, .slice none 0 0] /\ Blk w4 (g) 5 cur /\ Blk w4 (bw) 75 [.int .u64 (h : Int), .int .u64 (l : Int), .bool true] /\ Blk w4 (bx) 75 [.int .u64 (h1 : Int), .int .u64 (l1 : Int), .bool true] /\ Blk w4 (by_) 75 [.int .u64 (h2 : Int), .int .u64 (l2 : Int), .bool true] /\ Grow w w4) := ⟨(((B0.out _ HC).grow ga2).chg gb2 (by have := (B0.out _ HC).lt; omega)).grow gc2, (((B1.out _ HC).grow ga2).chg gb2 (by have := (B1.out _ HC).lt; omega)).grow gc2, (((B2.out _ HC).grow ga2).chg gb2 (by have := (B2.out _ HC).lt; omega)).grow gc2, (((B3.out _ HC).grow ga2).chg gb2 (by have := (B3.out _ HC).lt; omega)).grow gc2, Bb2.grow gc2, (by have x0 := GW.out _ HC; have x1 := x0.trans ga2; have x2 : Below w.heap.size w vb2 := Chg.below x1 gb2 x1.size (by have := x0.size; omega); exact Grow.trans x2 gc2)⟩
      clear HC CW CG GW B0 B1 B2 B3 hCp ga2 sa2 Ba2 Bb2 gb2 gc2
      have q4_0 : w4.cell? ⟨by_, 0, none⟩ = some (.int .u64 (h2 : Int)) := (H3.out.2.2.2.2.1).cell 0
      have q4_1 : w4.cell? ⟨by_, 1, none⟩ = some (.int .u64 (l2 : Int)) := (H3.out.2.2.2.2.1).cell 1
      have q4_2 : w4.cell? ⟨by_, 2, none⟩ = some (.bool true) := (H3.out.2.2.2.2.1).cell 2
      go_wp2_with ((with_reducible refine st_pre (.tmp 11) (.tmp 128) ?_); refine st_all rfl 75 (.tmp 11) (.tmp 128) rfl (bw) 75 [.int .u64 (h : Int), .int .u64 (l : Int), .bool true] [.int .u64 (h2 : Int), .int .u64 (l2 : Int), .bool true] rfl rfl H3.out.2.2.1 rfl sR (ones rfl) ?_)
      intro w5 yy3 mm3
      have H4 : Hid (Blk w5 (w.heap.size) 41 [.int .i64 0, .int .i64 0, .int .i64 0, .string ⟨#[]⟩, .slice none 0 0, .slice none 0 0] /\ Blk w5 (g) 5 cur /\ Blk w5 (bw) 75 [.int .u64 (h2 : Int), .int .u64 (l2 : Int), .bool true] /\ Blk w5 (bx) 75 [.int .u64 (h1 : Int), .int .u64 (l1 : Int), .bool true] /\ Blk w5 (by_) 75 [.int .u64 (h2 : Int), .int .u64 (l2 : Int), .bool true] /\ Grow w w5) := ⟨((H3.out.1).kept mm3 (by intro e; injection e with e; omega)), ((H3.out.2.1).kept mm3 (by intro e; injection e with e; omega)), yy3, ((H3.out.2.2.2.1).kept mm3 (by intro e; injection e with e; omega)), ((H3.out.2.2.2.2.1).kept mm3 (by intro e; injection e with e; omega)), (Below.grown (H3.out.2.2.2.2.2) mm3 (Below.size (H3.out.2.2.2.2.2)) (by intro e he; injection he with he; omega))⟩
      clear H3 yy3 mm3
      clear q4_0 q4_1 q4_2
      have HL2 : Hid (L2 w w5 true bw g cur ds (k + 1) h2 l2) := ⟨HW2.out, H4.out.1, H4.out.2.1, H4.out.2.2.1, H4.out.2.2.2.2.2⟩
      clear H4 K1 K2 HW2 HCk
      cases ov <;> cases ok1 <;> cases ok2
      all_goals
       go_wp2
       go_roundw
       case rel => exact ⟨k + 1, h2, l2, by omega, by rw [HSm.out]; rw [HXd.out]; rfl, by rw [<- HOv.out]; rfl, by go_num, HL2.out⟩
       case measure => simp [intOf]; omega
  have hl : k < R.data.toList.length := by rw [<- size_list]; exact hlt
  have eb : (R[k]'hlt) = R.data.toList[k] := byte_at R k hlt hl
  have hx8 : (R[k]'hlt).toNat < 256 := (R[k]'hlt).toNat_lt
  have BAD : Hid (dig10 R.data.toList[k] = false -> (R.data.toList[k] = 46 -> 0 <= pt) -> parseV true true R A B = none) := fun h1 h2 => parse_no HC.out (HL.out.bad hl h1 h2)
  have HB : Hid (Blk wr w.heap.size 41 [.int .i64 0, .int .i64 0, .int .i64 0, .string ⟨#[]⟩, .slice none 0 0, .slice none 0 0]) := HL.out.blk
  have HG : Hid (Grow w wr) := HL.out.gr
  by_cases hdig : dig10 R.data.toList[k] = true
  . have hd2 : 48 <= (R[k]'hlt).toNat /\ (R[k]'hlt).toNat <= 57 := by
     rw [eb]
     unfold dig10 at hdig
     rwa [decide_eq_true_eq] at hdig
    obtain ⟨b0, b1⟩ := hd2
    have HE : Hid ((R[k]'hlt).toNat = R.data.toList[k].toNat) := by show _ = _; rw [eb]
    have HD : Hid (dig10 R.data.toList[k] = true) := hdig
    have hdl : (u8s ds).length <= 100000 := by have := HL.out.len; simp [u8s]; omega
    have hz : w.heap.size + 1 <= wr.heap.size := HB.out.lt
    have HO : Hid (Own wr (w.heap.size + 1) u7 (u8s ds)) := HL.out.own
    clear eb hdig BAD
    go_wp2_with (at_builtin; go_must (refine app_bytes rfl (.tmp 59) (.tmp 63) rfl (w.heap.size + 1) u7 (u8s ds) rfl (HO.out.alloc _) _ _ _ [(R[k]'hlt).toNat] rfl rfl (byt_lit wr [(R[k]'hlt).toNat]) (by simp) (by simp only [List.length_singleton]; omega) (by simp; omega) ?_))
    intro v1 w1 o1 g1
    have HL2 : Hid (L1 w w1 R (k + 1) pt (ds ++ [R.data.toList[k]]) v1) := HL.out.dig hl HD.out _ (by rw [<- HE.out]; exact o1) g1
    clear o1 g1 HL HO HB HG hdl hz b0 b1 hx8 HE HD
    go_wp2
    go_roundw
    case rel => exact ⟨k + 1, pt, _, by omega, rfl, by go_num, HL2.out⟩
    case measure => simp [intOf]; omega
  . have hdig : dig10 R.data.toList[k] = false := by simpa using hdig
    have hnd : ¬ (48 <= (R[k]'hlt).toNat /\ (R[k]'hlt).toNat <= 57) := by
     rw [eb]
     unfold dig10 at hdig
     rwa [decide_eq_false_iff_not] at hdig
    by_cases h46 : (R[k]'hlt).toNat = 46
    . have h46' : R.data.toList[k] = 46 := by rw [<- eb]; exact UInt8.toNat_inj.1 h46
      have HE : Hid (R.data.toList[k] = 46) := h46'
      by_cases hp : pt < 0
      . clear eb hdig BAD hnd h46'
        go_wp2
        go_roundw
        case rel => exact ⟨k + 1, (k : Int), ds, by omega, rfl, by go_num, HL.out.dot hl HE.out hp⟩
        case measure => simp [intOf]; omega
      . have HN : Hid (parseV true true R A B = none) := BAD.out hdig (fun _ => by omega)
        have hp : 0 <= pt := by omega
        clear eb hdig BAD hnd h46' HL
        go_wp2_with (refine st_all rfl 41 (.tmp 2) (.tmp 37) rfl w.heap.size 41 [.int .i64 0, .int .i64 0, .int .i64 0, .string ⟨#[]⟩, .slice none 0 0, .slice none 0 0] [.int .i64 0, .int .i64 0, .int .i64 0, .string ⟨#[]⟩, .slice none 0 0, .slice none 0 0] rfl rfl HB.out rfl sV (ones rfl) ?_)
        intro w2 y2 m2
        have HG2 : Hid (Grow w w2) := Below.grown HG.out m2 (Below.size HG.out) (by intro e he; injection he with he; omega)
        go_wp2
        rw [HN.out]
        exact bodyPost_ret (res_two rfl _ w.heap.size 41 _ _ rfl y2 Tryz.underlying41 rfl sV) rfl ⟨rfl, HG2.out⟩
    . have HN : Hid (parseV true true R A B = none) := BAD.out hdig (fun h => absurd (by rw [eb, h]; rfl) h46)
      by_cases h48 : 48 <= (R[k]'hlt).toNat
      . have h57 : 57 < (R[k]'hlt).toNat := by omega
        clear eb hdig BAD hnd HL
        go_wp2_with (refine st_all rfl 41 (.tmp 2) (.tmp 37) rfl w.heap.size 41 [.int .i64 0, .int .i64 0, .int .i64 0, .string ⟨#[]⟩, .slice none 0 0, .slice none 0 0] [.int .i64 0, .int .i64 0, .int .i64 0, .string ⟨#[]⟩, .slice none 0 0, .slice none 0 0] rfl rfl HB.out rfl sV (ones rfl) ?_)
        intro w2 y2 m2
        have HG2 : Hid (Grow w w2) := Below.grown HG.out m2 (Below.size HG.out) (by intro e he; injection he with he; omega)
        go_wp2
        rw [HN.out]
        exact bodyPost_ret (res_two rfl _ w.heap.size 41 _ _ rfl y2 Tryz.underlying41 rfl sV) rfl ⟨rfl, HG2.out⟩
      . clear eb hdig BAD hnd HL
        go_wp2_with (refine st_all rfl 41 (.tmp 2) (.tmp 37) rfl w.heap.size 41 [.int .i64 0, .int .i64 0, .int .i64 0, .string ⟨#[]⟩, .slice none 0 0, .slice none 0 0] [.int .i64 0, .int .i64 0, .int .i64 0, .string ⟨#[]⟩, .slice none 0 0, .slice none 0 0] rfl rfl HB.out rfl sV (ones rfl) ?_)
        intro w2 y2 m2
        have HG2 : Hid (Grow w w2) := Below.grown HG.out m2 (Below.size HG.out) (by intro e he; injection he with he; omega)
        go_wp2
        rw [HN.out]
        exact bodyPost_ret (res_two rfl _ w.heap.size 41 _ _ rfl y2 Tryz.underlying41 rfl sV) rfl ⟨rfl, HG2.out⟩
end Go.Proofs.YtpfiejmhnkcjbaaGreatDoor.D6
namespace Go.Proofs.YtpfiejmhnkcjbaaGreatDoor.D6
set_option maxRecDepth 8000
open Go.RowKit
set_option linter.unusedVariables false
theorem rP_e (s : ByteArray) (hs : s.size = 0) (w : World) :
 Calls Tryz.prog 42 #[.string s] w fun e w' => e = .returned (.tuple #[.agg #[.int .i64 0, .int .i64 0, .int .i64 0, .string ⟨#[]⟩, .slice none 0 0, .slice none 0 0], .int .i64 3]) /\ Grow w w' := by
 have HB0 : Hid (Blk (w.alloc (.cells #[.int .i64 0, .int .i64 0, .int .i64 0, .string ⟨#[]⟩, .slice none 0 0, .slice none 0 0] 41)) w.heap.size 41 [.int .i64 0, .int .i64 0, .int .i64 0, .string ⟨#[]⟩, .slice none 0 0, .slice none 0 0]) := blk_new w 41 [.int .i64 0, .int .i64 0, .int .i64 0, .string ⟨#[]⟩, .slice none 0 0, .slice none 0 0]
 have HG0 : Hid (Grow w (w.alloc (.cells #[.int .i64 0, .int .i64 0, .int .i64 0, .string ⟨#[]⟩, .slice none 0 0, .slice none 0 0] 41))) := (Grow.refl _).alloc _
 go_enter Tryz.func42, Tryz.ntmps42
 go_wp2
 go_loopw [6, 7, 8] (fun p dv i wr => p = .int .i64 (-1) /\ dv = .slice none 0 0 /\ i = .int .i64 0 /\ Hid (Blk wr w.heap.size 41 [.int .i64 0, .int .i64 0, .int .i64 0, .string ⟨#[]⟩, .slice none 0 0, .slice none 0 0]) /\ Hid (Grow w wr)) (fun _ _ i _ => 0)
 case atStart => exact ⟨rfl, rfl, rfl, HB0.out, HG0.out⟩
 case round =>
  obtain ⟨rfl, rfl, rfl, HB, HG⟩ := hrel
  clear HB0 HG0
  go_wp2_with ((with_reducible refine st_pre (.tmp 2) (.tmp 93) ?_); refine st_all rfl 41 (.tmp 2) (.tmp 93) rfl w.heap.size 41 [.int .i64 0, .int .i64 0, .int .i64 0, .string ⟨#[]⟩, .slice none 0 0, .slice none 0 0] [.int .i64 0, .int .i64 0, .int .i64 0, .string ⟨#[]⟩, .slice none 0 0, .slice none 0 0] rfl rfl HB.out rfl sV (ones rfl) ?_)
  intro w2 y2 m2
  have HG2 : Hid (Grow w w2) := Below.grown HG.out m2 (Below.size HG.out) (by intro e he; injection he with he; omega)
  go_wp2
  exact bodyPost_ret (res_two rfl _ w.heap.size 41 _ _ rfl y2 Tryz.underlying41 rfl sV) rfl ⟨rfl, HG2.out⟩
theorem rParse_any (s R A B : ByteArray) (b d : Bool) (hm : Minus s R b) (hR : R.size <= 100000) (hc : Cuts R A B d) (w : World) :
 Calls Tryz.prog 42 #[.string s] w fun e w' => e = .returned (.tuple #[.agg #[.int .i64 (Po.k (parseV b d R A B)), .int .i64 (Po.n (parseV b d R A B)), .int .i64 (Po.s (parseV b d R A B)), .string ⟨#[]⟩, .slice none 0 0, .slice none 0 0], .int .i64 (Po.e (parseV b d R A B))]) /\ Grow w w' := by
 cases hm with
 | yes h =>
   have h0 : 0 < s.size := by rw [size_list, h]; simp
   have hl : 0 < s.data.toList.length := by rw [<- size_list]; exact h0
   have e0 : (s[0]'h0).toNat = 45 := by
    rw [byte_at s 0 h0 hl]
    have : s.data.toList[0] = 45 := by simp [h]
    rw [this]; rfl
   have eR : s.extract 1 s.size = R := by
    have hz : s.size = R.data.toList.length + 1 := by rw [size_list, h]; rfl
    have e : (s.extract 1 s.size).data.toList = R.data.toList := by
     rw [ByteArray.data_extract, Array.toList_extract, List.extract_eq_take_drop, h, hz]
     show List.take _ R.data.toList = _
     rw [List.take_of_length_le (by omega)]
    have e2 : (s.extract 1 s.size).data = R.data := Array.toList_inj.1 e
    exact ByteArray.ext e2
   cases d
   . exact rP_ni s R A B hR h0 e0 eR hc w
   . exact rP_nd s R A B hR h0 e0 eR hc w
 | no h hr =>
   subst hr
   by_cases h0 : R.size = 0
   . have hA : A.size = 0 := by
      have hn : R.data.toList = [] := List.eq_nil_of_length_eq_zero (by rw [<- size_list]; exact h0)
      cases hc with
      | none h1 ha hb => rw [ha]; exact h0
      | «at» h1 ha => rw [hn] at h1; simp at h1
     rw [pv_empty hA]
     exact rP_e R h0 w
   . have h0 : 0 < R.size := by omega
     have hl : 0 < R.data.toList.length := by rw [<- size_list]; exact h0
     have e0 : ¬ (R[0]'h0).toNat = 45 := fun e => h (by
      rw [List.head?_eq_getElem?, List.getElem?_eq_getElem hl, <- byte_at R 0 h0 hl]
      congr 1
      exact UInt8.toNat_inj.1 e)
     cases d
     . exact rP_pi R R A B hR h0 e0 rfl hc w
     . exact rP_pd R R A B hR h0 e0 rfl hc w
end Go.Proofs.YtpfiejmhnkcjbaaGreatDoor.D6
