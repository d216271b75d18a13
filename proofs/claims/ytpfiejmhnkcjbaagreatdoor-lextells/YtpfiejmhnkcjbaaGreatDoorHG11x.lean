/-
   ·  ·  · 
-/
import Derived.Test.YtpfiejmhnkcjbaaGreatDoorHG9x
import Derived.Test.YtpfiejmhnkcjbaaGreatDoorHD6Sh2
import Derived.OwnWalk
import Derived.Test.YtpfiejmhnkcjbaaGreatDoorHLxg
import Derived.Laws.AppendOwnNone
import Derived.Maps.AppendAt
namespace Go.Proofs.YtpfiejmhnkcjbaaGreatDoor
set_option maxRecDepth 8000
open Go.RowKit Lx
set_option linter.unusedVariables false
set_option linter.unusedSimpArgs false
theorem quoIx (R : ByteArray) (w : World) : Calls Tryz.prog 102 #[.string R, .string ⟨#[34]⟩] w fun e w' => e = .returned (.int .i64 (if ((bts R).takeWhile (· != 34)).length < R.size then ((((bts R).takeWhile (· != 34)).length : Nat) : Int) else -1)) /\ w' = w := by
 have K : Calls Tryz.prog 102 _ _ _ := Any.stringslite_Index_one Tryz.lays219 R 34 w
 refine K.mono ?_
 rintro e w' ⟨rfl, rfl⟩
 refine ⟨?_, rfl⟩
 rw [ix_tw]
 have e2 : R.data.toList.length = R.size := Array.length_toList ..
 rw [e2]
 rfl
theorem qcut_no (R : ByteArray) (K : Hid (∀ W, Calls Tryz.prog 102 #[.string R, .string ⟨#[34]⟩] W fun e w' => e = .returned (.int .i64 (-1)) /\ w' = W)) (w : World) :
 Calls Tryz.prog 78 #[.string R, .string ⟨#[34]⟩] w fun e w' => e = .returned (.tuple #[.string R, .string ⟨#[]⟩, .bool false]) /\ Below w.heap.size w w' := by
 go_enter Tryz.func78, Tryz.ntmps78
 go_wp2_with fail
 refine (K.out _).mono ?_
 rintro e w2 ⟨rfl, rfl⟩
 go_wp2
 go_ret3
 exact ⟨rfl, Below.refl _ _⟩
theorem qcut_yes (R : ByteArray) (i j : Nat) (hj : i + 1 = j) (hi : j <= R.size) (hR : R.size <= 1000000) (K : Hid (∀ W, Calls Tryz.prog 102 #[.string R, .string ⟨#[34]⟩] W fun e w' => e = .returned (.int .i64 (i : Int)) /\ w' = W)) (w : World) :
 Calls Tryz.prog 78 #[.string R, .string ⟨#[34]⟩] w fun e w' => e = .returned (.tuple #[.string (R.extract 0 i),   .string (R.extract j R.size), .bool true]) /\ Below w.heap.size w w' := by
 have e1 : (i : Int) + 1 = (j : Int) := by omega
 have e2 : i <= R.size := by omega
 clear hj
 go_enter Tryz.func78, Tryz.ntmps78
 go_wp2_with fail
 refine (K.out _).mono ?_
 rintro e w2 ⟨rfl, rfl⟩
 go_wp2
 go_quiet (fail)
 go_wp2
 go_ret3
 exact ⟨rfl, below_dq _ _⟩
theorem qcut_s (R A B : ByteArray) (d : Bool) (K : Hid (∀ W, Calls Tryz.prog 78 #[.string R, .string ⟨#[34]⟩] W fun e w' => e = .returned (.tuple #[.string A, .string B, .bool d]) /\ Below W.heap.size W w')) (w : World) :
 Calls Tryz.prog 54 #[.string R, .string ⟨#[34]⟩] w fun e w' => e = .returned (.tuple #[.string A, .string B, .bool d]) /\ Below w.heap.size w w' := by
 go_enter Tryz.func54, Tryz.ntmps54
 go_wp2_with fail
 refine (K.out _).mono ?_
 rintro e w2 ⟨rfl, g⟩
 have G : Hid (Below w.heap.size w w2) := g
 clear g
 go_wp2
 go_ret3
 exact ⟨rfl, G.out⟩
theorem qcut_any (R : ByteArray) (hR : R.size <= 1000000) (T : Nat) (hT : ((bts R).takeWhile (· != 34)).length = T) :
 (T < R.size /\ ∀ W, Calls Tryz.prog 54 #[.string R, .string ⟨#[34]⟩] W fun e w' => e = .returned (.tuple #[.string (R.extract 0 T), .string (R.extract (T + 1) R.size), .bool true]) /\ Below W.heap.size W w') ∨
 (¬ T < R.size /\ ∀ W, Calls Tryz.prog 54 #[.string R, .string ⟨#[34]⟩] W fun e w' => e = .returned (.tuple #[.string R, .string ⟨#[]⟩, .bool false]) /\ Below W.heap.size W w') := by
 by_cases h : T < R.size
 . refine .inl ⟨h, fun W => qcut_s _ _ _ _ (fun W => qcut_yes R T (T + 1) rfl (by omega) hR (fun W => ?_) W) W⟩
   have := quoIx R W
   rw [hT, if_pos h] at this
   exact this
 . refine .inr ⟨h, fun W => qcut_s _ _ _ _ (fun W => qcut_no R (fun W => ?_) W) W⟩
   have := quoIx R W
   rw [hT, if_neg h] at this
   exact this
end Go.Proofs.YtpfiejmhnkcjbaaGreatDoor
namespace Go.Proofs.YtpfiejmhnkcjbaaGreatDoor
set_option maxHeartbeats 2000000
set_option maxRecDepth 8000
open Go.RowKit Lx
set_option linter.unusedVariables false
set_option linter.unusedSimpArgs false
def TxC (tx : List Nat -> Bool) : Prop := ∀ (x : ByteArray) (W : World), x.size <= 10000 -> (bts x).head? = some 39 -> Calls Tryz.prog 43 #[.string x] W fun e w' => ∃ v k E, e = .returned (.tuple #[v, .int .i64 E]) /\ IsVL v k /\ (tx (bts x) = true ↔ E = 0 /\ k = 6) /\ Hid (Below W.heap.size W w')
theorem tx_skip {c : Nat} {q : List Nat} (h : c ≠ 39) : txE (c :: q) = (txE q).map (· + 1) := by
 cases q with
 | nil => simp [txE, h]
 | cons d q => simp [txE, h]
theorem tx_two {q : List Nat} : txE (39 :: 39 :: q) = (txE q).map (· + 2) := by simp [txE]
theorem tx_end {q : List Nat} (h : q.head? ≠ some 39) : txE (39 :: q) = some 1 := by
 cases q with
 | nil => simp [txE]
 | cons d q => simp [txE]; intro hd; exact absurd (by rw [hd]; rfl) h
theorem drop_at (s : ByteArray) {i : Nat} (h : i < s.size) : (bts s).drop i = (bts s).getD i 0 :: (bts s).drop (i + 1) := by
 have h' : i < (bts s).length := by rw [bts_len]; exact h
 rw [List.drop_eq_getElem_cons h', List.getD_eq_getElem?_getD, List.getElem?_eq_getElem h']
 rfl
def txA (tx : List Nat -> Bool) (r : List Nat) (p : Nat) : Value :=
 match txE (r.drop 1) with
 | none => .tuple #[.int .i64 0, .bool false]
 | some n => .tuple #[.int .i64 ((p + 1 + n : Nat) : Int), .bool (tx (r.take (n + 1)))]
theorem text_any (tx : List Nat -> Bool) (htx : TxC tx) (s : ByteArray) (p : Nat) (hp : p < s.size) (hs : s.size <= 10000) (h39 : ((bts s).drop p).head? = some 39) (w : World) :
 Calls Tryz.prog 24 #[.string s, .int .i64 (p : Int)] w fun e w' => e = .returned (txA tx ((bts s).drop p) p) /\ Hid (Below w.heap.size w w') := by
 have HTX : Hid (TxC tx) := htx
 have H39 : Hid (∀ i, p <= i -> i + 1 <= s.size -> (bts (s.extract p (i + 1))).head? = some 39) := fun i h1 h2 => by
  have := bts_midL s p (i + 1 - p) (by omega)
  rw [show p + (i + 1 - p) = i + 1 by omega] at this
  rw [this]
  cases hd : (bts s).drop p with
  | nil => rw [hd] at h39; cases h39
  | cons c q =>
    rw [hd] at h39
    rw [show i + 1 - p = (i - p) + 1 by omega, List.take_succ_cons]
    exact h39
 obtain ⟨R, hR⟩ : ∃ R, R = txA tx ((bts s).drop p) p := ⟨_, rfl⟩
 rw [<- hR]
 have HR : Hid (R = txA tx ((bts s).drop p) p) := hR
 have e1 : IntKind.i64.wrap ((p : Int) + 1) = (p : Int) + 1 := by rw [IntKind.wrap_i64]; omega
 clear hR htx h39
 go_enter Tryz.func24, Tryz.ntmps24
 go_wp2_with fail
 go_loopw [6] (fun iv wr => ∃ i : Nat, p + 1 <= i /\ i <= s.size /\ iv = .int .i64 (i : Int) /\ wr = w /\ Hid (txE ((bts s).drop (p + 1)) = (txE ((bts s).drop i)).map (· + (i - (p + 1))))) (fun iv _ => s.size - (intOf iv).toNat)
 case atStart => exact ⟨p + 1, Nat.le_refl _, hp, by simp, rfl, by show _ = _; rw [Nat.sub_self]; exact Option.map_id'.symm⟩
 case round =>
  obtain ⟨i, hpi, hi, rfl, rfl, HK⟩ := hrel
  clear e1
  by_cases x1 : i < s.size
  . have x1' : (i : Int) < (s.size : Int) := by omega
    have hix := idxL s i x1 wr
    have hdr := drop_at s x1
    have e1 : IntKind.i64.wrap ((i : Int) + 1) = (i : Int) + 1 := by rw [IntKind.wrap_i64]; omega
    have e2 : IntKind.i64.wrap ((i : Int) + 2) = (i : Int) + 2 := by rw [IntKind.wrap_i64]; omega
    by_cases hc : (bts s).getD i 0 = 39
    . rw [hc] at hix hdr
      by_cases x3 : i + 1 < s.size
      . have x3' : (i : Int) + 1 < (s.size : Int) := by omega
        have hix3 := idxL s (i + 1) x3 wr
        rw [show ((i + 1 : Nat) : Int) = (i : Int) + 1 by omega] at hix3
        have hdr3 := drop_at s x3
        by_cases hd : (bts s).getD (i + 1) 0 = 39
        . rw [hd] at hix3 hdr3
          have HK2 : Hid (txE ((bts s).drop (p + 1)) = (txE ((bts s).drop (i + 2))).map (· + (i + 2 - (p + 1)))) := by
           show _ = _
           rw [HK.out, hdr, hdr3, tx_two, Option.map_map]
           congr 1
           funext a
           show a + 2 + _ = _
           omega
          clear HK hdr hdr3 hc hd HR
          go_wp2
          go_roundw
          case rel => exact ⟨i + 2, by omega, by omega, by go_num, by first | rfl | trivial, HK2⟩
          case measure => simp [intOf]; omega
        . have ht : txE ((bts s).drop i) = some 1 := by rw [hdr, hdr3]; exact tx_end (by simpa using hd)
          have hd' : ¬ (((bts s).getD (i + 1) 0 : Nat) : Int) = 39 := by omega
          generalize (bts s).getD (i + 1) 0 = c3 at *
          clear hdr hdr3 hc hd
          have hnn : p + (i + 1 - p) = i + 1 := by omega
          have HRE : Hid (R = .tuple #[.int .i64 ((i : Int) + 1), .bool (tx (bts (s.extract p (i + 1))))]) := by
           show _ = _
           have hb := bts_midL s p (i + 1 - p) (by omega)
           rw [hnn] at hb
           rw [HR.out, hb]
           unfold txA
           rw [List.drop_drop, HK.out, ht]
           show Value.tuple #[.int .i64 ((p + 1 + (1 + (i - (p + 1))) : Nat) : Int), .bool (tx (((bts s).drop p).take (1 + (i - (p + 1)) + 1)))] = _
           rw [show p + 1 + (1 + (i - (p + 1))) = i + 1 by omega, show 1 + (i - (p + 1)) + 1 = i + 1 - p by omega]
           rfl
          have KP := HTX.out (s.extract p (i + 1)) wr (by rw [ByteArray.size_extract]; omega) (H39.out i (by omega) (by omega))
          clear ht HK hnn HR HTX
          go_wp2_with fail
          refine KP.mono ?_
          clear KP
          rintro e w2 ⟨v, kk, E, rfl, ⟨n1, n2, t1, na, nl, nc, ka, kl, kc, rfl⟩, hE, H⟩
          have HEE : Hid (tx (bts (s.extract p (i + 1))) = true ↔ E = 0 /\ kk = 6) := hE
          have HB2 : Hid (Below wr.heap.size wr w2) := H
          clear hE H hix hix3
          generalize tx (bts (s.extract p (i + 1))) = b at *
          by_cases hE0 : E = 0
          . by_cases hk6 : kk = 6
            . obtain rfl : b = true := HEE.out.2 ⟨hE0, hk6⟩
              go_wp2
              go_quiet (fail)
              go_wp2
              go_ret2
              refine ⟨congrArg Ending.returned ?_, (HB2.out.alloc HB2.out.size _).trans ⟨rfl, rfl, rfl, Nat.le_refl _, fun _ _ => rfl⟩⟩
              rw [HRE.out]
              first | rfl | (simp only [hk6']; rfl)
            . obtain rfl : b = false := by cases b with | false => rfl | true => exact absurd (HEE.out.1 rfl).2 hk6
              have hk6' : (kk == 6) = false := beq_eq_false_iff_ne.2 hk6
              go_wp2
              go_quiet (fail)
              go_wp2
              go_ret2
              refine ⟨congrArg Ending.returned ?_, (HB2.out.alloc HB2.out.size _).trans ⟨rfl, rfl, rfl, Nat.le_refl _, fun _ _ => rfl⟩⟩
              rw [HRE.out]
              first | rfl | (simp only [hk6']; rfl)
          . obtain rfl : b = false := by cases b with | false => rfl | true => exact absurd (HEE.out.1 rfl).1 hE0
            go_wp2
            go_quiet (fail)
            go_wp2
            go_ret2
            refine ⟨congrArg Ending.returned ?_, (HB2.out.alloc HB2.out.size _).trans ⟨rfl, rfl, rfl, Nat.le_refl _, fun _ _ => rfl⟩⟩
            rw [HRE.out]
            first | rfl | (simp only [hk6']; rfl)
      . have x3' : ¬ (i : Int) + 1 < (s.size : Int) := by omega
        have ht : txE ((bts s).drop i) = some 1 := by rw [hdr, List.drop_of_length_le (by rw [bts_len]; omega)]; rfl
        clear hdr hc
        have hnn : p + (i + 1 - p) = i + 1 := by omega
        have HRE : Hid (R = .tuple #[.int .i64 ((i : Int) + 1), .bool (tx (bts (s.extract p (i + 1))))]) := by
         show _ = _
         have hb := bts_midL s p (i + 1 - p) (by omega)
         rw [hnn] at hb
         rw [HR.out, hb]
         unfold txA
         rw [List.drop_drop, HK.out, ht]
         show Value.tuple #[.int .i64 ((p + 1 + (1 + (i - (p + 1))) : Nat) : Int), .bool (tx (((bts s).drop p).take (1 + (i - (p + 1)) + 1)))] = _
         rw [show p + 1 + (1 + (i - (p + 1))) = i + 1 by omega, show 1 + (i - (p + 1)) + 1 = i + 1 - p by omega]
         rfl
        have KP := HTX.out (s.extract p (i + 1)) wr (by rw [ByteArray.size_extract]; omega) (H39.out i (by omega) (by omega))
        clear ht HK hnn HR HTX
        go_wp2_with fail
        refine KP.mono ?_
        clear KP
        rintro e w2 ⟨v, kk, E, rfl, ⟨n1, n2, t1, na, nl, nc, ka, kl, kc, rfl⟩, hE, H⟩
        have HEE : Hid (tx (bts (s.extract p (i + 1))) = true ↔ E = 0 /\ kk = 6) := hE
        have HB2 : Hid (Below wr.heap.size wr w2) := H
        clear hE H hix
        generalize tx (bts (s.extract p (i + 1))) = b at *
        by_cases hE0 : E = 0
        . by_cases hk6 : kk = 6
          . obtain rfl : b = true := HEE.out.2 ⟨hE0, hk6⟩
            go_wp2
            go_quiet (fail)
            go_wp2
            go_ret2
            refine ⟨congrArg Ending.returned ?_, (HB2.out.alloc HB2.out.size _).trans ⟨rfl, rfl, rfl, Nat.le_refl _, fun _ _ => rfl⟩⟩
            rw [HRE.out]
            first | rfl | (simp only [hk6']; rfl)
          . obtain rfl : b = false := by cases b with | false => rfl | true => exact absurd (HEE.out.1 rfl).2 hk6
            have hk6' : (kk == 6) = false := beq_eq_false_iff_ne.2 hk6
            go_wp2
            go_quiet (fail)
            go_wp2
            go_ret2
            refine ⟨congrArg Ending.returned ?_, (HB2.out.alloc HB2.out.size _).trans ⟨rfl, rfl, rfl, Nat.le_refl _, fun _ _ => rfl⟩⟩
            rw [HRE.out]
            first | rfl | (simp only [hk6']; rfl)
        . obtain rfl : b = false := by cases b with | false => rfl | true => exact absurd (HEE.out.1 rfl).1 hE0
          go_wp2
          go_quiet (fail)
          go_wp2
          go_ret2
          refine ⟨congrArg Ending.returned ?_, (HB2.out.alloc HB2.out.size _).trans ⟨rfl, rfl, rfl, Nat.le_refl _, fun _ _ => rfl⟩⟩
          rw [HRE.out]
          first | rfl | (simp only [hk6']; rfl)
    . have hc' : ¬ (((bts s).getD i 0 : Nat) : Int) = 39 := by omega
      have HK2 : Hid (txE ((bts s).drop (p + 1)) = (txE ((bts s).drop (i + 1))).map (· + (i + 1 - (p + 1)))) := by
       show _ = _
       rw [HK.out, hdr, tx_skip hc, Option.map_map]
       congr 1
       funext a
       show a + 1 + _ = _
       omega
      generalize (bts s).getD i 0 = c at *
      clear HK hdr hc HR
      go_wp2
      go_roundw
      case rel => exact ⟨i + 1, by omega, by omega, by go_num, by first | rfl | trivial, HK2⟩
      case measure => simp [intOf]; omega
  . have x1' : ¬ (i : Int) < (s.size : Int) := by omega
    have HRE : Hid (R = .tuple #[.int .i64 0, .bool false]) := by
     show _ = _
     rw [HR.out]
     unfold txA
     rw [List.drop_drop, HK.out, List.drop_of_length_le (by rw [bts_len]; omega)]
     rfl
    clear HK HR
    go_wp2
    go_ret2
    exact ⟨congrArg Ending.returned HRE.out.symm, Below.refl _ _⟩
end Go.Proofs.YtpfiejmhnkcjbaaGreatDoor
namespace Go.Proofs.YtpfiejmhnkcjbaaGreatDoor
open Go.RowKit Lx
set_option linter.unusedVariables false
set_option linter.unusedSimpArgs false
theorem run_app {w : World} (t ty e : TypeId) (size : Nat) (hsz : 0 < size) (ht : Tryz.prog.underlying t = some (.slice e)) (hI : (Tryz.prog.info? e).map (fun i => (i.zero.map (·.cells.size), i.size, decide (i.bytes <= 1000))) = some (some size, size, true))
 (v : Value) (n : Nat) (xs : List Value) (base : Nat) (hbase : base <= w.heap.size) (hown : w.ownsRow base e size v n xs) (ax : Option Addr) (m c : Nat) (hnil : ax = none -> m = 0 /\ c = 0) (news : List Value) (hl : news.length = m * size) (hnews : ∀ ad, ax = some ad -> ∀ j u, news[j]? = some u -> w.cell? (ad.add j) = some u) (h1 : ∀ u ∈ news, u.oneCell' = true) (hb : n + m <= 100000) :
 ∃ v' w', (Builtin.append_ #[t, t] ty #[v, .slice ax m c]).run Tryz.prog w = .ok v' w' /\ w'.ownsRow base e size v' (n + m) (xs ++ news) /\ w.grownBy w' v.ownBlock /\ (v'.ownBlock = v.ownBlock ∨ v'.ownBlock = some w.heap.size) := by
 cases hq : Tryz.prog.info? e with
 | none => rw [hq] at hI; cases hI
 | some i =>
   rw [hq] at hI
   simp only [Option.map_some, Option.some.injEq, Prod.mk.injEq] at hI
   obtain ⟨h0, hz1, hz2⟩ := hI
   obtain ⟨z, hz, hzs⟩ : ∃ z, i.zero = some z /\ z.cells.size = size := by
    cases hzz : i.zero with
    | none => rw [hzz] at h0; cases h0
    | some z => rw [hzz] at h0; exact ⟨z, rfl, by simpa using h0⟩
   have hby : i.bytes <= 1000 := of_decide_eq_true hz2
   cases ax with
   | none =>
     obtain ⟨rfl, rfl⟩ := hnil rfl
     have hl : news = [] := List.eq_nil_of_length_eq_zero (by simpa using hl)
     subst hl
     exact ⟨v, w, run_append_owned_none (P := Tryz.prog) (w := w) base t ty e i size ht hq v n xs hown, by simpa using hown, World.grownBy.refl _ _, .inl rfl⟩
   | some ad =>
     obtain ⟨v', w', q1, q2, q3, _, q5⟩ := run_append_own_at (P := Tryz.prog) w base t ty e i z size i.bytes ht hq hz hz1 rfl hzs hsz v n xs hown ad m c news hl (hnews ad rfl) h1 (by unfold maxLen; omega) (by
      have : (n + m) * i.bytes <= 100000 * 1000 := Nat.mul_le_mul hb hby
      omega) hbase
     exact ⟨v', w', q1, q2, q3, q5⟩
theorem oper_app {o : Oper} {a : Act} {w : World} {K : Act -> World -> Prop} {Q : Exit -> Act -> World -> Prop} (s x : Operand) (t e : TypeId) (size : Nat) (ho : o.op = .call { callee := .builtin .append, args := #[s, x], argTypes := #[t, t] }) (hsz : 0 < size) (ht : Tryz.prog.underlying t = some (.slice e)) (hI : (Tryz.prog.info? e).map (fun i => (i.zero.map (·.cells.size), i.size, decide (i.bytes <= 1000))) = some (some size, size, true))
 (v : Value) (n : Nat) (xs : List Value) (hs : a.eval s = v) (base : Nat) (hbase : base <= w.heap.size) (hown : w.ownsRow base e size v n xs) (ax : Option Addr) (m c : Nat) (hx : a.eval x = .slice ax m c) (hnil : ax = none -> m = 0 /\ c = 0) (news : List Value) (hl : news.length = m * size) (hnews : ∀ ad, ax = some ad -> ∀ j u, news[j]? = some u -> w.cell? (ad.add j) = some u) (h1 : ∀ u ∈ news, u.oneCell' = true) (hb : n + m <= 100000)
 (h : ∀ v' w', w'.ownsRow base e size v' (n + m) (xs ++ news) -> w.grownBy w' v.ownBlock -> (v'.ownBlock = v.ownBlock ∨ v'.ownBlock = some w.heap.size) -> K (a.put o.dst v') w') : Oper.wp Tryz.prog o a w K Q := by
 obtain ⟨v', w', hr, h2, h3, h4⟩ := run_app (w := w) t o.type e size hsz ht hI v n xs base hbase hown ax m c hnil news hl hnews h1 hb
 unfold Oper.wp execOp
 simp only [ho, resolve, invoke, builtin, Sem.run_bind, Sem.run_pure, Result.andThen_ok, List.map_toArray, List.map_cons, List.map_nil, hs, hx, hr]
 exact h v' w' h2 h3 h4
theorem wl_app {ops : Array Oper} {rest : List Oper} {o : Oper} {a : Act} {w : World} {Q : Exit -> Act -> World -> Prop} (hg : o.guard = none) (s x : Operand) (t e : TypeId) (size : Nat) (ho : o.op = .call { callee := .builtin .append, args := #[s, x], argTypes := #[t, t] }) (hsz : 0 < size) (ht : Tryz.prog.underlying t = some (.slice e)) (hI : (Tryz.prog.info? e).map (fun i => (i.zero.map (·.cells.size), i.size, decide (i.bytes <= 1000))) = some (some size, size, true))
 (v : Value) (n : Nat) (xs : List Value) (hs : a.eval s = v) (base : Nat) (hbase : base <= w.heap.size) (hown : w.ownsRow base e size v n xs) (ax : Option Addr) (m c : Nat) (hx : a.eval x = .slice ax m c) (hnil : ax = none -> m = 0 /\ c = 0) (news : List Value) (hl : news.length = m * size) (hnews : ∀ ad, ax = some ad -> ∀ j u, news[j]? = some u -> w.cell? (ad.add j) = some u) (h1 : ∀ u ∈ news, u.oneCell' = true) (hb : n + m <= 100000)
 (h : ∀ v' w', w'.ownsRow base e size v' (n + m) (xs ++ news) -> w.grownBy w' v.ownBlock -> (v'.ownBlock = v.ownBlock ∨ v'.ownBlock = some w.heap.size) -> wpList Tryz.prog ops Q rest (a.put o.dst v') w') : wpList Tryz.prog ops Q (o :: rest) a w :=
 wpList_plain hg fun K hK => oper_app s x t e size ho hsz ht hI v n xs hs base hbase hown ax m c hx hnil news hl hnews h1 hb fun v' w' h2 h3 h4 => hK _ _ (h v' w' h2 h3 h4)
def tk1 (x : Tk) : List Value := [.int .i64 (x.1 : Int), .string (ofB x.2.1), .int .i64 (x.2.2 : Int)]
def tkC (L : List Tk) : List Value := L.flatMap tk1
theorem tkC_app (L : List Tk) (k : Nat) (t : List Nat) (p : Nat) : tkC L ++ [.int .i64 (k : Int), .string (ofB t), .int .i64 (p : Int)] = tkC (L ++ [(k, t, p)]) := by simp [tkC, tk1]
theorem iTk : (Tryz.prog.info? 32).map (fun i => (i.zero.map (·.cells.size), i.size, decide (i.bytes <= 1000))) = some (some 3, 3, true) := by kernel_rfl
def TkR (B : Nat) (w : World) (v : Value) (L : List Tk) : Prop := w.ownsRow B 32 3 v L.length (tkC L)
theorem TkR.below {B : Nat} {w w' : World} {v : Value} {L : List Tk} (h : TkR B w v L) (g : Below w.heap.size w w') : TkR B w' v L :=
 World.ownsRow.kept (row := none) h ⟨g.os, g.tape, g.output, g.size, fun x hx _ => g.block x hx⟩ (by simpa using Classical.em _)
theorem TkR.slice {B : Nat} {w : World} {v : Value} {L : List Tk} (h : TkR B w v L) : ∃ a c, v = .slice a L.length c := by
 rcases h with ⟨h1, ⟨rfl, h0⟩ | ⟨g, cap, cur, rfl, hg, hh, hle, hm, h5, h6⟩⟩
 . exact ⟨none, 0, by rw [h0]⟩
 . exact ⟨_, cap, rfl⟩
theorem app_below {B : Nat} {w0 w w' : World} {v : Value} {L : List Tk} (h0 : Below B w0 w) (h : TkR B w v L) (hB : B <= w.heap.size) (o : Obj) (g : (w.alloc o).grownBy w' v.ownBlock) : Below B w0 w' := by
 have h1 : Below B w0 (w.alloc o) := h0.alloc hB o
 refine h1.trans ⟨g.os, g.tape, g.output, g.size, fun k hk => g.block k (Nat.lt_of_lt_of_le hk (Nat.le_trans hB (World.grownBy_alloc w o none).size)) fun e => ?_⟩
 have := (World.ownsRow.lt h k e.symm).1
 omega
def LexU (tx nu : List Nat -> Bool) (r : List Nat) (L : List Tk) (p : Nat) : Prop := lexR tx nu r 0 = (L ++ (lexR tx nu (r.drop p) p).1, (lexR tx nu (r.drop p) p).2)
theorem LexU.zero (tx nu : List Nat -> Bool) (r : List Nat) : LexU tx nu r [] 0 := rfl
theorem LexU.skip {tx nu : List Nat -> Bool} {r : List Nat} {L : List Tk} {p n : Nat} (h : LexU tx nu r L p) (hr : r.drop p ≠ []) (hs : Lx.step tx nu (r.drop p) = .skip n) : LexU tx nu r L (p + n) := by
 unfold LexU at *
 rw [h, lexR_step tx nu hr, hs]
 simp only [List.drop_drop]
theorem LexU.tok {tx nu : List Nat -> Bool} {r : List Nat} {L : List Tk} {p n k : Nat} {t : List Nat} (h : LexU tx nu r L p) (hr : r.drop p ≠ []) (hs : Lx.step tx nu (r.drop p) = .tok k t n) : LexU tx nu r (L ++ [(k, t, p)]) (p + n) := by
 unfold LexU at *
 rw [h, lexR_step tx nu hr, hs]
 simp only [List.drop_drop, List.append_assoc, List.cons_append, List.nil_append]
theorem LexU.bad {tx nu : List Nat -> Bool} {r : List Nat} {L : List Tk} {p : Nat} (h : LexU tx nu r L p) (hr : r.drop p ≠ []) (hs : Lx.step tx nu (r.drop p) = .bad) : (lexR tx nu r 0).2 = some p := by
 unfold LexU at h
 rw [h, lexR_step tx nu hr, hs]
theorem LexU.done {tx nu : List Nat -> Bool} {r : List Nat} {L : List Tk} {p : Nat} (h : LexU tx nu r L p) (hr : p = r.length) : lexR tx nu r 0 = (L ++ [(8, [], p)], none) := by
 subst hr
 unfold LexU at h
 rw [h, List.drop_of_length_le (Nat.le_refl _), lexR_nil]
def LexA (w : World) (tx nu : List Nat -> Bool) (r : List Nat) (e : Ending) (w' : World) : Prop :=
 match (lexR tx nu r 0).2 with
 | some p => e = .returned (.tuple #[.slice none 0 0, .int .i64 (p : Int), .int .i64 12])
 | none => ∃ v, e = .returned (.tuple #[v, .int .i64 0, .int .i64 0]) /\ TkR w.heap.size w' v (lexR tx nu r 0).1
end Go.Proofs.YtpfiejmhnkcjbaaGreatDoor
namespace Go.Proofs.YtpfiejmhnkcjbaaGreatDoor
open Go.RowKit Lx
set_option linter.unusedVariables false
set_option linter.unusedSimpArgs false
theorem cells_new (w : World) (news : List Value) (t : TypeId) : ∀ ad, some (⟨w.heap.size, 0, none⟩ : Addr) = some ad -> ∀ j u, news[j]? = some u -> (w.alloc (.cells news.toArray t)).cell? (ad.add j) = some u := by
 rintro ad e j u hj
 injection e with e
 subst e
 have e : (⟨w.heap.size, 0, none⟩ : Addr).add j = ⟨w.heap.size, j, none⟩ := by simp [Addr.add]; intro h; exact h.symm
 rw [e]
 rw [cell_of_row _ w.heap.size j _ t (0, 0) (heap_alloc_new w (.cells news.toArray t))]
 simpa using hj
theorem one_tk (k p : Int) (t : ByteArray) : ∀ u ∈ [Value.int .i64 k, .string t, .int .i64 p], u.oneCell' = true := by simp; exact ⟨rfl, rfl, rfl⟩
section
variable {tx nu : List Nat -> Bool} {c : Nat} {q : List Nat}
theorem st_blank (h : isBl c = true) : Lx.step tx nu (c :: q) = .skip 1 := by unfold Lx.step; simp only [h, if_true]
theorem st_rem (h : q.head? = some 45) : Lx.step tx nu (45 :: q) = .skip ((45 :: q).takeWhile (· != 10)).length := by
 unfold Lx.step
 simp only [show isBl 45 = false from rfl, Bool.false_eq_true, if_false, h, and_self, if_true]
theorem st_word (h0 : isBl c = false) (h : isLt c = true) : Lx.step tx nu (c :: q) = if isW (sml ((c :: q).takeWhile isNm)) then .tok 2 (sml ((c :: q).takeWhile isNm)) ((c :: q).takeWhile isNm).length else .tok 1 ((c :: q).takeWhile isNm) ((c :: q).takeWhile isNm).length := by
 have h1 : ¬ (c = 45 /\ q.head? = some 45) := fun e => by rw [e.1] at h; cases h
 unfold Lx.step
 simp only [h0, Bool.false_eq_true, if_false, h1, h, if_true]
theorem st_quo : Lx.step tx nu (34 :: q) = if q.length = (q.takeWhile (· != 34)).length ∨ (q.takeWhile (· != 34)).length < 1 ∨ 40 < (q.takeWhile (· != 34)).length then .bad else .tok 1 (q.takeWhile (· != 34)) ((q.takeWhile (· != 34)).length + 2) := rfl
theorem st_num (h : isDg c = true) : Lx.step tx nu (c :: q) = if folw ((c :: q).drop (nuE (c :: q)).1) = true ∨ nu ((c :: q).take (nuE (c :: q)).1) = false then .bad else .tok (if (nuE (c :: q)).2 then 4 else 3) ((c :: q).take (nuE (c :: q)).1) (nuE (c :: q)).1 := by
 have hc : 48 <= c /\ c <= 57 := by unfold isDg at h; simpa using h
 have h0 : isBl c = false := by unfold isBl; simp; omega
 have h1 : ¬ (c = 45 /\ q.head? = some 45) := by omega
 have h2 : isLt c = false := by unfold isLt; simp; omega
 have h3 : ¬ c = 34 := by omega
 unfold Lx.step
 simp only [h0, Bool.false_eq_true, if_false, h1, h2, h3, h, if_true]
theorem st_txt : Lx.step tx nu (39 :: q) = match txE q with
 | none => .bad
 | some n => if tx ((39 :: q).take (n + 1)) then .tok 5 ((39 :: q).take (n + 1)) (n + 1) else .bad := rfl
theorem st_par : Lx.step tx nu (63 :: q) = .tok 7 [63] 1 := rfl
theorem st_sgn (h0 : isBl c = false) (h1 : ¬ (c = 45 /\ q.head? = some 45)) (h2 : isLt c = false) (h3 : ¬ c = 34) (h4 : isDg c = false) (h5 : ¬ c = 39) (h6 : ¬ c = 63) : Lx.step tx nu (c :: q) = if sgn (c :: q) = [] then .bad else .tok 6 (told (sgn (c :: q))) (sgn (c :: q)).length := by
 unfold Lx.step
 simp only [h0, Bool.false_eq_true, if_false, h1, h2, h3, h4, h5, h6]
end
end Go.Proofs.YtpfiejmhnkcjbaaGreatDoor
