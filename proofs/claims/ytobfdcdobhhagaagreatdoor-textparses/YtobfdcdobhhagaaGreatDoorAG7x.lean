/-
   ·  ·  · 
-/
import Derived.Test.YtobfdcdobhhagaaGreatDoorAG6x
import Derived.Laws.BytesArg
namespace Go.Proofs.YtobfdcdobhhagaaGreatDoor.D6
set_option maxRecDepth 8000
open Go.RowKit Go.Sort
set_option linter.unusedVariables false
theorem dec_step {v : Nat} (h : 10 <= v) : Lib.decDigits v = Lib.decDigits (v / 10) ++ [UInt8.ofNat (48 + v % 10)] := by
 rw [Lib.decDigits, dif_neg (by omega)]
theorem app_list (a b : ByteArray) : (a ++ b).data.toList = a.data.toList ++ b.data.toList := by simp [ByteArray.data_append]
theorem of_list {l : List UInt8} {a : ByteArray} (h : l = a.data.toList) : (⟨l.toArray⟩ : ByteArray) = a := by
 subst h
 simp
theorem size_list (a : ByteArray) : a.size = a.data.toList.length := by
 rw [Array.length_toList]
 rfl
theorem conv_one (wr : World) (v : Nat) (D : ByteArray) (hD : D.data.toList = [UInt8.ofNat (48 + v % 10)]) :
 (convert 52 9 (.slice (some ⟨wr.heap.size, 0, none⟩) 1 1)).run Tryz.prog (wr.alloc (Obj.cells #[.int .u8 (48 + (v : Int) % 10)] 5)) = .ok (.string D) (wr.alloc (Obj.cells #[.int .u8 (48 + (v : Int) % 10)] 5)) := by
 have h := run_convert_bytes_back (P := Tryz.prog) (wr.alloc (Obj.cells #[.int .u8 (48 + (v : Int) % 10)] 5)) 52 9 5 ⟨wr.heap.size, 0, none⟩ 1 [UInt8.ofNat (48 + v % 10)] Tryz.underlying52 Tryz.underlying5 Tryz.underlying9 (fun j hj => by
  have : j = 0 := by simpa using hj
  subst this
  rw [Lib.add_plain, World.cell?_alloc_new]
  have e : ((48 + v % 10 : Nat) : Int) = 48 + (v : Int) % 10 := by omega
  have e2 : (UInt8.ofNat (48 + v % 10)).toNat = 48 + v % 10 := by
   rw [UInt8.toNat_ofNat']
   omega
  simp only [List.getElem_cons_zero, e2, e]
  rfl)
 rw [of_list hD.symm] at h
 exact h
theorem decR (u : Nat) (hu : u < 18446744073709551616) (w : World) : Calls Tryz.prog 64 #[.int .u64 (u : Int)] w fun e w' => e = .returned (.string ⟨(Lib.decDigits u).toArray⟩) /\ Grow w w' := by
 have H20 : Hid ((Lib.decDigits u).length <= 20) := by
  have := (dig_size u hu).2
  rw [size_list] at this
  exact this
 go_enter Tryz.func64, Tryz.ntmps64
 go_wp2
 go_loopw [0, 3] (fun p q wr => ∃ (v : Nat) (S : ByteArray), v < 18446744073709551616 /\ S.size <= 20 /\ p = .int .u64 (v : Int) /\ q = .string S /\ Hid (Lib.decDigits u = Lib.decDigits v ++ S.data.toList /\ Grow w wr)) (fun p _ _ => (intOf p).toNat)
 case atStart => exact ⟨u, ⟨#[]⟩, hu, by decide, rfl, rfl, (List.append_nil _).symm, Grow.refl _⟩
 case round =>
  obtain ⟨v, S, hv, hS, rfl, rfl, HI⟩ := hrel
  obtain ⟨D, hD⟩ : ∃ D : ByteArray, D.data.toList = [UInt8.ofNat (48 + v % 10)] := ⟨⟨[UInt8.ofNat (48 + v % 10)].toArray⟩, rfl⟩
  have hcv := conv_one wr v D hD
  have hDs : D.size = 1 := by rw [size_list, hD]; rfl
  have HDD := Lib.hid hD
  clear hD
  have hsz : ¬ 9223372036854775807 < D.size + S.size := by omega
  by_cases h10 : v < 10
  . have HR : Hid ((⟨(Lib.decDigits u).toArray⟩ : ByteArray) = D ++ S /\ Grow w wr) := by
     refine ⟨of_list ?_, HI.out.2⟩
     rw [app_list, HDD.out, HI.out.1, Lib.decDigits_one h10, Nat.mod_eq_of_lt h10]
    have e0 : (v : Int) / 10 = 0 := by omega
    go_wp2
    go_ret
    exact ⟨by rw [HR.out.1]; rfl, HR.out.2.alloc _⟩
  . have e0 : (v : Int) / 10 = ((v / 10 : Nat) : Int) := by omega
    have e1 : ¬ (v / 10 : Nat) = 0 := by omega
    have HR : Hid (Lib.decDigits u = Lib.decDigits (v / 10) ++ (D ++ S).data.toList /\ Grow w wr /\ v / 10 < v) := by
     refine ⟨?_, HI.out.2, by omega⟩
     rw [app_list, HDD.out, HI.out.1, dec_step (by omega), List.append_assoc]
    obtain ⟨v', hv'⟩ : ∃ v', v / 10 = v' := ⟨_, rfl⟩
    rw [hv'] at e0 e1 HR
    have hlt : v' < 18446744073709551616 := by omega
    clear hv'
    go_wp2
    go_roundw
    case rel =>
     have q := H20.out
     rw [HR.out.1, List.length_append, <- size_list] at q
     exact ⟨v', D ++ S, hlt, by omega, rfl, rfl, HR.out.1, HR.out.2.1.alloc _⟩
    case measure => have := HR.out.2.2; simp [intOf]; omega
end Go.Proofs.YtobfdcdobhhagaaGreatDoor.D6
namespace Go.Proofs.YtobfdcdobhhagaaGreatDoor.D6
set_option maxHeartbeats 1000000
set_option maxRecDepth 8000
open Go.RowKit
set_option linter.unusedVariables false
theorem mulW (x y h l : Nat) (hx : x < 18446744073709551616) (hy : y < 18446744073709551616) (hw : Wd h l (x * y)) (w : World) :
 Calls Tryz.prog 152 #[.int .u64 (x : Int), .int .u64 (y : Int)] w fun e w' => e = .returned (.tuple #[.int .u64 (h : Int), .int .u64 (l : Int)]) /\ w' = w := by
 have k := mul60 x y hx hy w
 rw [show x * y / 18446744073709551616 = h by rw [<- hw.eq]; have := hw.l1; omega, show x * y % 18446744073709551616 = l by rw [<- hw.eq]; have := hw.l1; omega] at k
 exact k
theorem by_t (h l p ch cl hl h'  : Nat) (b : Bool)
 (K1 : Hid (∀ W, Calls Tryz.prog 152 #[.int .u64 (l : Int), .int .u64 (p : Int)] W fun e w' => e = .returned (.tuple #[.int .u64 (ch : Int), .int .u64 (cl : Int)]) /\ w' = W))
 (K2 : Hid (∀ W, Calls Tryz.prog 152 #[.int .u64 (h : Int), .int .u64 (p : Int)] W fun e w' => e = .returned (.tuple #[.int .u64 0, .int .u64 (hl : Int)]) /\ w' = W))
 (K3 : Hid (∀ W, (callFunc 153 #[.int .u64 (hl : Int), .int .u64 (ch : Int), .int .u64 0]).run Tryz.prog W = .ok (.value (.tuple #[.int .u64 (h' : Int), .int .u64 0])) W)) (w : World) :
 Calls Tryz.prog 120 #[.agg #[.int .u64 (h : Int), .int .u64 (l : Int), .bool b], .int .u64 (p : Int)] w fun e w' => e = .returned (.tuple #[.agg #[.int .u64 (h' : Int), .int .u64 (cl : Int), .bool b], .bool true]) /\ Grow w w' := by
 have k3 := K3.out
 clear K3
 go_enter Tryz.func120, Tryz.ntmps120
 go_wp2_with fail
 refine (K1.out _).mono ?_
 rintro e w' ⟨rfl, rfl⟩
 go_wp2_with fail
 refine (K2.out _).mono ?_
 rintro e w' ⟨rfl, rfl⟩
 go_wp2
 exact bodyPost_ret (res_two rfl _ (w.heap.size + 1) 134 _ _ rfl (blk_at (by simp)) Tryz.underlying134 rfl sR) rfl ⟨rfl, ((Grow.refl _).alloc _).alloc _⟩
theorem by_c (h l p ch cl hl h'  : Nat) (b : Bool)
 (K1 : Hid (∀ W, Calls Tryz.prog 152 #[.int .u64 (l : Int), .int .u64 (p : Int)] W fun e w' => e = .returned (.tuple #[.int .u64 (ch : Int), .int .u64 (cl : Int)]) /\ w' = W))
 (K2 : Hid (∀ W, Calls Tryz.prog 152 #[.int .u64 (h : Int), .int .u64 (p : Int)] W fun e w' => e = .returned (.tuple #[.int .u64 0, .int .u64 (hl : Int)]) /\ w' = W))
 (K3 : Hid (∀ W, (callFunc 153 #[.int .u64 (hl : Int), .int .u64 (ch : Int), .int .u64 0]).run Tryz.prog W = .ok (.value (.tuple #[.int .u64 (h' : Int), .int .u64 1])) W)) (w : World) :
 Calls Tryz.prog 120 #[.agg #[.int .u64 (h : Int), .int .u64 (l : Int), .bool b], .int .u64 (p : Int)] w fun e w' => e = .returned (.tuple #[.agg #[.int .u64 (h' : Int), .int .u64 (cl : Int), .bool b], .bool false]) /\ Grow w w' := by
 have k3 := K3.out
 clear K3
 go_enter Tryz.func120, Tryz.ntmps120
 go_wp2_with fail
 refine (K1.out _).mono ?_
 rintro e w' ⟨rfl, rfl⟩
 go_wp2_with fail
 refine (K2.out _).mono ?_
 rintro e w' ⟨rfl, rfl⟩
 go_wp2
 exact bodyPost_ret (res_two rfl _ (w.heap.size + 1) 134 _ _ rfl (blk_at (by simp)) Tryz.underlying134 rfl sR) rfl ⟨rfl, ((Grow.refl _).alloc _).alloc _⟩
theorem by_h (h l p ch cl hl h' hh c : Nat) (b : Bool) (hne : ¬ hh = 0)
 (K1 : Hid (∀ W, Calls Tryz.prog 152 #[.int .u64 (l : Int), .int .u64 (p : Int)] W fun e w' => e = .returned (.tuple #[.int .u64 (ch : Int), .int .u64 (cl : Int)]) /\ w' = W))
 (K2 : Hid (∀ W, Calls Tryz.prog 152 #[.int .u64 (h : Int), .int .u64 (p : Int)] W fun e w' => e = .returned (.tuple #[.int .u64 (hh : Int), .int .u64 (hl : Int)]) /\ w' = W))
 (K3 : Hid (∀ W, (callFunc 153 #[.int .u64 (hl : Int), .int .u64 (ch : Int), .int .u64 0]).run Tryz.prog W = .ok (.value (.tuple #[.int .u64 (h' : Int), .int .u64 (c : Int)])) W)) (w : World) :
 Calls Tryz.prog 120 #[.agg #[.int .u64 (h : Int), .int .u64 (l : Int), .bool b], .int .u64 (p : Int)] w fun e w' => e = .returned (.tuple #[.agg #[.int .u64 (h' : Int), .int .u64 (cl : Int), .bool b], .bool false]) /\ Grow w w' := by
 have k3 := K3.out
 clear K3
 go_enter Tryz.func120, Tryz.ntmps120
 go_wp2_with fail
 refine (K1.out _).mono ?_
 rintro e w' ⟨rfl, rfl⟩
 go_wp2_with fail
 refine (K2.out _).mono ?_
 rintro e w' ⟨rfl, rfl⟩
 go_wp2
 exact bodyPost_ret (res_two rfl _ (w.heap.size + 1) 134 _ _ rfl (blk_at (by simp)) Tryz.underlying134 rfl sR) rfl ⟨rfl, ((Grow.refl _).alloc _).alloc _⟩
theorem byR (h l m p h' l' : Nat) (b ok : Bool) (a : Wd h l m) (hp : p < 18446744073709551616) (s : Wd h' l' ((m * p) % 340282366920938463463374607431768211456)) (hk : decide (m * p < 340282366920938463463374607431768211456) = ok) (w : World) :
 Calls Tryz.prog 120 #[.agg #[.int .u64 (h : Int), .int .u64 (l : Int), .bool b], .int .u64 (p : Int)] w fun e w' => e = .returned (.tuple #[.agg #[.int .u64 (h' : Int), .int .u64 (l' : Int), .bool b], .bool ok]) /\ Grow w w' := by
 have m1 : l * p < 340282366920938463463374607431768211456 := Nat.lt_of_lt_of_le (Nat.mul_lt_mul'' a.l1 hp) (by decide)
 have m2 : h * p < 340282366920938463463374607431768211456 := Nat.lt_of_lt_of_le (Nat.mul_lt_mul'' a.h1 hp) (by decide)
 obtain ⟨ch, cl, W1⟩ := wd_of (l * p) m1
 obtain ⟨hh, hl, W2⟩ := wd_of (h * p) m2
 have e0 : m * p = (h * p) * 18446744073709551616 + l * p := by rw [<- a.eq, Nat.add_mul, Nat.mul_right_comm]
 have K1 : ∀ W, _ := fun W => mulW l p ch cl a.l1 hp W1 W
 have K2 : ∀ W, _ := fun W => mulW h p hh hl a.h1 hp W2 W
 have e1 := W1.eq
 have e2 := W2.eq
 have e3 := s.eq
 generalize h * p = X at *
 generalize l * p = Y at *
 generalize m * p = T at *
 have x1 := W1.l1
 have x2 := W1.h1
 have x3 := W2.l1
 have x4 := W2.h1
 have x5 := s.l1
 have x6 := s.h1
 obtain rfl : l' = cl := by omega
 have K3 : ∀ W, (callFunc 153 #[.int .u64 (hl : Int), .int .u64 (ch : Int), .int .u64 0]).run Tryz.prog W = .ok (.value (.tuple #[.int .u64 (h' : Int), .int .u64 (((hl + ch) / 18446744073709551616 : Nat) : Int)])) W := fun W => by
  have := add64 hl ch 0 x3 x2 (by omega) W
  rw [Nat.add_zero, show (hl + ch) % 18446744073709551616 = h' by omega] at this
  exact this
 by_cases z : hh = 0
 . subst z
   by_cases c0 : hl + ch < 18446744073709551616
   . rw [show (hl + ch) / 18446744073709551616 = 0 by omega] at K3
     obtain rfl : ok = true := by rw [<- hk]; simp; omega
     exact by_t h l p ch l' hl h' b K1 K2 K3 w
   . rw [show (hl + ch) / 18446744073709551616 = 1 by omega] at K3
     obtain rfl : ok = false := by rw [<- hk]; simp; omega
     exact by_c h l p ch l' hl h' b K1 K2 K3 w
 . obtain rfl : ok = false := by rw [<- hk]; simp; omega
   exact by_h h l p ch l' hl h' hh _ b z K1 K2 K3 w
theorem add_st (h1 l1 h2 l2 h l c : Nat) (b1 b2 : Bool)
 (K1 : Hid (∀ W, (callFunc 153 #[.int .u64 (l1 : Int), .int .u64 (l2 : Int), .int .u64 0]).run Tryz.prog W = .ok (.value (.tuple #[.int .u64 (l : Int), .int .u64 (c : Int)])) W)) (K2 : Hid (∀ W, (callFunc 153 #[.int .u64 (h1 : Int), .int .u64 (h2 : Int), .int .u64 (c : Int)]).run Tryz.prog W = .ok (.value (.tuple #[.int .u64 (h : Int), .int .u64 0])) W)) (w : World) :
 Calls Tryz.prog 121 #[.agg #[.int .u64 (h1 : Int), .int .u64 (l1 : Int), .bool b1], .agg #[.int .u64 (h2 : Int), .int .u64 (l2 : Int), .bool b1]] w fun e w' => e = .returned (.tuple #[.agg #[.int .u64 (h : Int), .int .u64 (l : Int), .bool b1], .bool true]) /\ Grow w w' := by
 have k1 := K1.out
 have k2 := K2.out
 clear K1 K2
 go_enter Tryz.func121, Tryz.ntmps121
 go_wp2
 exact bodyPost_ret (res_two rfl _ (w.heap.size + 2) 134 _ _ rfl (blk_at (by simp)) Tryz.underlying134 rfl sR) rfl ⟨rfl, (((Grow.refl _).alloc _).alloc _).alloc _⟩
theorem add_sf (h1 l1 h2 l2 h l c : Nat) (b1 b2 : Bool)
 (K1 : Hid (∀ W, (callFunc 153 #[.int .u64 (l1 : Int), .int .u64 (l2 : Int), .int .u64 0]).run Tryz.prog W = .ok (.value (.tuple #[.int .u64 (l : Int), .int .u64 (c : Int)])) W)) (K2 : Hid (∀ W, (callFunc 153 #[.int .u64 (h1 : Int), .int .u64 (h2 : Int), .int .u64 (c : Int)]).run Tryz.prog W = .ok (.value (.tuple #[.int .u64 (h : Int), .int .u64 1])) W)) (w : World) :
 Calls Tryz.prog 121 #[.agg #[.int .u64 (h1 : Int), .int .u64 (l1 : Int), .bool b1], .agg #[.int .u64 (h2 : Int), .int .u64 (l2 : Int), .bool b1]] w fun e w' => e = .returned (.tuple #[.agg #[.int .u64 (h : Int), .int .u64 (l : Int), .bool b1], .bool false]) /\ Grow w w' := by
 have k1 := K1.out
 have k2 := K2.out
 clear K1 K2
 go_enter Tryz.func121, Tryz.ntmps121
 go_wp2
 exact bodyPost_ret (res_two rfl _ (w.heap.size + 2) 134 _ _ rfl (blk_at (by simp)) Tryz.underlying134 rfl sR) rfl ⟨rfl, (((Grow.refl _).alloc _).alloc _).alloc _⟩
theorem addR_same (h1 l1 m1 h2 l2 m2 h l : Nat) (b ok : Bool) (a : Wd h1 l1 m1) (a2 : Wd h2 l2 m2) (s : Wd h l ((m1 + m2) % 340282366920938463463374607431768211456)) (hk : decide (m1 + m2 < 340282366920938463463374607431768211456) = ok) (w : World) :
 Calls Tryz.prog 121 #[.agg #[.int .u64 (h1 : Int), .int .u64 (l1 : Int), .bool b], .agg #[.int .u64 (h2 : Int), .int .u64 (l2 : Int), .bool b]] w fun e w' => e = .returned (.tuple #[.agg #[.int .u64 (h : Int), .int .u64 (l : Int), .bool b], .bool ok]) /\ Grow w w' := by
 have x1 := a.eq
 have x2 := a2.eq
 have x3 := s.eq
 have y1 := a.l1
 have y2 := a.h1
 have y3 := a2.l1
 have y4 := a2.h1
 have y5 := s.l1
 have y6 := s.h1
 obtain ⟨c, hc⟩ : ∃ c, (l1 + l2) / 18446744073709551616 = c := ⟨_, rfl⟩
 have K1 : ∀ W, _ := fun W => add64 l1 l2 0 y1 y3 (by omega) W
 have K2 : ∀ W, _ := fun W => add64 h1 h2 c y2 y4 (by omega) W
 rw [Nat.add_zero, hc, show (l1 + l2) % 18446744073709551616 = l by omega] at K1
 rw [show (h1 + h2 + c) % 18446744073709551616 = h by omega] at K2
 by_cases z : m1 + m2 < 340282366920938463463374607431768211456
 . rw [show (h1 + h2 + c) / 18446744073709551616 = 0 by omega] at K2
   obtain rfl : ok = true := by rw [<- hk]; simp; omega
   exact add_st h1 l1 h2 l2 h l c b b K1 K2 w
 . rw [show (h1 + h2 + c) / 18446744073709551616 = 1 by omega] at K2
   obtain rfl : ok = false := by rw [<- hk]; simp; omega
   exact add_sf h1 l1 h2 l2 h l c b b K1 K2 w
end Go.Proofs.YtobfdcdobhhagaaGreatDoor.D6
namespace Go.Proofs.YtobfdcdobhhagaaGreatDoor.D6
open Go.RowKit
set_option linter.unusedVariables false
def Anyw : World -> Prop := fun _ => True
theorem anyw_p (w : World) (p : Prop) : (∀ W, Anyw W -> p) ↔ p := ⟨fun h => h w trivial, fun h _ _ => h⟩
section
variable {P : Program} {ops : Array Oper} {Z : List Nat} {Q : Exit -> Act -> World -> Prop}
theorem anyR_free {i : Nat} {oi : Oper} {v : Value} (hi : ops[i]? = some oi) (hsel : Region.noSelect ops = true) (hQ : ∀ c (a : Act) (d : Option Tmp) v w, Q (.panic c) (a.put d v) w -> Q (.panic c) a w) :
 ∀ (n : Nat) (listed : Array Bool) (a : Act) (w : World),
   (∀ j oj, ops[j]? = some oj -> j ≠ i -> listed.getD j true = false -> (∀ e ∈ oj.after, Region.binds .any e = true -> e.on ≠ i) -> oi.apart ops oj = true) ->
   i ∈ Region.ready .any ops listed -> Pur P ops Anyw oi v a -> anyR P ops Z Q n (listed.setIfInBounds i true) (a.put oi.dst v) w -> anyR P ops Z Q (n + 1) listed a w := by
 intro n
 induction n with
 | zero =>
   intro listed a w _ hr hy H w' hw'
   refine ⟨fun h => absurd hr (by rw [h]; exact List.not_mem_nil), fun j hj => ?_⟩
   by_cases e : j = i
   . subst e
     exact hy.op hi trivial fun w'' hg => ⟨.inr hg, anyR_grow H (hw'.trans hg)⟩
   . have := ready_mono hj e
     rw [(H w' hw').1] at this
     exact absurd this List.not_mem_nil
 | succ n ih =>
   intro listed a w hfree hr hy H w' hw'
   refine ⟨fun h => absurd hr (by rw [h]; exact List.not_mem_nil), fun j hj => ?_⟩
   by_cases e : j = i
   . subst e
     exact hy.op hi trivial fun w'' hg => ⟨.inr hg, anyR_grow H (hw'.trans hg)⟩
   . obtain ⟨hun, oj, hoj, hall⟩ := mem_ready.1 hj
     have hi0 := (mem_ready.1 hr).1
     have hnot : ∀ e ∈ oj.after, Region.binds .any e = true -> e.on ≠ i := fun ed he hb heq => by
      have h1 := hall ed he hb
      rw [heq, Array.getD_eq_getD_getElem?] at h1
      rw [Array.getD_eq_getD_getElem?] at hi0
      cases hg : listed[i]? with
      | none => rw [hg] at hi0; cases hi0
      | some b => rw [hg] at h1 hi0; simp at h1 hi0; rw [h1] at hi0; cases hi0
     have h2 := put_firstR hoj (hfree j oj hoj e hun hnot) (fun cs b => Region.noSelect_spec hsel i oi cs b hi) (fun cs b => Region.noSelect_spec hsel j oj cs b hoj) hQ hy ((H w' hw').2 j (ready_mono hj e))
     refine wpOp_mono (fun a' w'' h3 => ⟨h3.2.1, ih (listed.setIfInBounds j true) a' w'' (fun k ok hk hki hku hno => hfree k ok hk hki ?_ hno) (ready_mono hr (Ne.symm e)) h3.1 ?_⟩) h2
     . by_cases hjk : j = k
       . rw [<- hjk]; exact hun
       . rw [getD_set_ne true hjk] at hku; exact hku
     . rw [Array.setIfInBounds_comm _ _ e]
       exact h3.2.2
def segFB (ops : Array Oper) : Array Bool -> List Nat -> Bool
 | _, [] => true
 | listed, i :: r => (Region.ready .any ops listed).contains i && (Region.free .any ops listed i && ((match ops[i]? with | some o => atOnce o.op | none => false) && segFB ops (listed.setIfInBounds i true) r))
theorem calm_segF (hsel : Region.noSelect ops = true) (hQ : ∀ c (a : Act) (d : Option Tmp) v w, Q (.panic c) (a.put d v) w -> Q (.panic c) a w) {w : World} (n : Nat) : ∀ (l : List Nat) (L : List Oper) (listed : Array Bool) (a : Act), segFB ops listed l = true -> l.map (fun i => ops[i]?) = L.map some ->
 wpQuiet P ops Anyw (fun a' => anyR P ops Z Q n (marks listed l) a' w) L a -> anyR P ops Z Q (n + l.length) listed a w
 | [], [], _, _, _, _, h => h
 | [], _ :: _, _, _, _, e, _ => by cases e
 | _ :: _, [], _, _, _, e, _ => by cases e
 | i :: l, o :: L, listed, a, hB, e, h => by
   simp only [List.map_cons, List.cons.injEq] at e
   obtain ⟨e0, e1⟩ := e
   simp only [segFB, e0, Bool.and_eq_true] at hB
   obtain ⟨hr, hf, ho, hB'⟩ := hB
   have go : ∀ v, Calm P ops Anyw o v a -> wpQuiet P ops Anyw (fun a' => anyR P ops Z Q n (marks (listed.setIfInBounds i true) l) a' w) L (a.put o.dst v) -> anyR P ops Z Q (n + (i :: l).length) listed a w := fun v hy h' => by
    have hp : Pur P ops Anyw o v a := by
     rcases hy with ⟨h1, h2⟩ | h2
     . exact .inl ⟨h1, fun w hw => by rw [h2 w hw]; exact ⟨rfl, rfl⟩⟩
     . exact .inr h2
    exact anyR_free e0 hsel hQ (n + l.length) listed a w (Region.free_spec e0 hf) (by simpa using hr) hp (calm_segF hsel hQ n l L _ _ hB' e1 h')
   by_cases hw : Region.wanted o (yielded ops a.tmps) = true
   . have h' : o.quiet P a Anyw (wpQuiet P ops Anyw (fun a' => anyR P ops Z Q n (marks (listed.setIfInBounds i true) l) a' w) L) := by
      have := h
      unfold wpQuiet at this
      rw [if_pos hw] at this
      exact this
     obtain ⟨v, hy, hk⟩ := Calm.of_quiet ho hw h'
     exact go v hy hk
   . have h' : wpQuiet P ops Anyw (fun a' => anyR P ops Z Q n (marks (listed.setIfInBounds i true) l) a' w) L (a.put o.dst undef) := by
      have := h
      unfold wpQuiet at this
      rw [if_neg hw] at this
      exact this
     exact go undef (.inr ⟨by simpa using hw, rfl⟩) h'
theorem segF {L : List Oper} {n : Nat} {listed : Array Bool} {a : Act} {w : World} (N : Nat) (l : List Nat) (hn : n = N + l.length) (hsel : Region.noSelect L.toArray = true) (hQ : ∀ c (a : Act) (d : Option Tmp) v w, Q (.panic c) (a.put d v) w -> Q (.panic c) a w)
 (hB : segFB L.toArray listed l = true) (h : wpQuiet P L.toArray Anyw (fun a' => anyR P L.toArray Z Q N (marks listed l) a' w) (picks L l) a) : anyR P L.toArray Z Q n listed a w := by
 subst hn
 refine calm_segF hsel hQ N l (picks L l) listed a hB ?_ h
 clear h
 induction l generalizing listed with
 | nil => rfl
 | cons i r ih =>
   simp only [segFB, Bool.and_eq_true] at hB
   have h1 := ih hB.2.2.2
   have h2 := hB.2.2.1
   rw [List.getElem?_toArray, <- nth_eq] at h2
   unfold picks
   cases hg : nth L i with
   | none => rw [hg] at h2; cases h2
   | some o =>
     simp only [List.map_cons]
     rw [h1, List.getElem?_toArray, <- nth_eq, hg]
end
end Go.Proofs.YtobfdcdobhhagaaGreatDoor.D6
namespace Go.Proofs.YtobfdcdobhhagaaGreatDoor.D6
set_option maxHeartbeats 8000000
set_option maxRecDepth 8000
open Go.RowKit
set_option linter.unusedVariables false
inductive Lw (h l s : Nat) : Bool -> Int -> Int -> Int -> Int -> Int -> Prop
 | s (b) : 18 < s -> Lw h l s b h 0 0 0 10
 | h (b) : s <= 18 -> ¬ h = 0 -> Lw h l s b h 0 0 0 10
 | l (b) : s <= 18 -> h = 0 -> 9223372036854775808 < l -> Lw h l s b 0 0 0 0 10
 | t : s <= 18 -> h = 0 -> l = 9223372036854775808 -> Lw h l s false 0 0 0 0 10
 | it : s = 0 -> h = 0 -> l = 9223372036854775808 -> Lw h l s true 0 3 (-9223372036854775808) 0 0
 | dt : 0 < s -> s <= 18 -> h = 0 -> l = 9223372036854775808 -> Lw h l s true 0 4 (-9223372036854775808) s 0
 | ip : s = 0 -> h = 0 -> 0 < l -> l < 9223372036854775808 -> Lw h l s false 0 3 l 0 0
 | im : s = 0 -> h = 0 -> 0 < l -> l < 9223372036854775808 -> Lw h l s true 0 3 (-((l : Int) - 1) - 1) 0 0
 | dp : 0 < s -> s <= 18 -> h = 0 -> 0 < l -> l < 9223372036854775808 -> Lw h l s false 0 4 l s 0
 | dm : 0 < s -> s <= 18 -> h = 0 -> 0 < l -> l < 9223372036854775808 -> Lw h l s true 0 4 (-((l : Int) - 1) - 1) s 0
theorem Lw.z {h l s b z k n p x} (d : Lw h l s b z k n p x) : z = (h : Int) := by cases d <;> simp_all
theorem leastR_h (b : Bool) (h l m s : Nat) (hs : s < 9223372036854775808) (hw : Wd h l m) (hh : ¬ h = 0) (h' l' m' s' : Nat) (hd : dnN m s = (m', s')) (hw' : Wd h' l' m') (z k n p x : Int) (HD : Hid (Lw h' l' s' b z k n p x)) (w : World) :
 Calls Tryz.prog 122 #[.agg #[.int .u64 (h : Int), .int .u64 (l : Int), .bool b], .int .i64 (s : Int)] w fun e w' => e = .returned (.tuple #[.agg #[.int .i64 k, .int .i64 n, .int .i64 p, .string ⟨#[]⟩, .slice none 0 0, .slice none 0 0], .int .i64 x]) /\ Grow w w' := by
 have H0 : Hid (Wd h l m /\ dnN m s = (m', s') /\ Wd h' l' m') := ⟨hw, hd, hw'⟩
 have HL : l' < 18446744073709551616 := hw'.l1
 clear hw hd hw'
 go_enter Tryz.func122, Tryz.ntmps122
 go_wp2
 obtain ⟨w1, HW1⟩ : ∃ w1, ((w.alloc (Obj.cells #[.int .u64 (h : Int), .int .u64 (l : Int), .bool b] 134)).alloc (Obj.cells #[.int .i64 0, .int .i64 0, .int .i64 0, .string ⟨#[]⟩, .slice none 0 0, .slice none 0 0] 38)) = w1 := ⟨_, rfl⟩
 obtain ⟨C, hC⟩ : ∃ C : World -> Prop, C = fun W => Grow w1 W := ⟨_, rfl⟩
 have GW : Hid (∀ W, C W -> Grow w W) := fun W hW => by rw [hC, <- HW1] at hW; exact Grow.trans (((Grow.refl _).alloc _).alloc _) hW
 have B0 : Hid (∀ W, C W -> Blk W (w.heap.size) 134 [.int .u64 (h : Int), .int .u64 (l : Int), .bool b]) := fun W hW => by rw [hC, <- HW1] at hW; exact Blk.grow (Blk.alloc (blk_at rfl) _) hW
 have B1 : Hid (∀ W, C W -> Blk W (w.heap.size + 1) 38 [.int .i64 0, .int .i64 0, .int .i64 0, .string ⟨#[]⟩, .slice none 0 0, .slice none 0 0]) := fun W hW => by rw [hC, <- HW1] at hW; exact Blk.grow (blk_at (by simp)) hW
 have CG : Hid (∀ W W', C W -> Grow W W' -> C W') := fun W W' h1 h2 => by rw [hC] at h1 ⊢; exact h1.trans h2
 have CW : Hid (C w1) := by rw [hC]; exact Grow.refl _
 rw [HW1]
 clear HW1 hC
 go_loopw [1] (fun q wr => ∃ hc lc mc sc : Nat, sc < 9223372036854775808 /\ q = .int .i64 (sc : Int) /\ Hid (Wd hc lc mc /\ dnN mc sc = (m', s') /\ Blk wr w.heap.size 134 [.int .u64 (hc : Int), .int .u64 (lc : Int), .bool b] /\ Blk wr (w.heap.size + 1) 38 [.int .i64 0, .int .i64 0, .int .i64 0, .string ⟨#[]⟩, .slice none 0 0, .slice none 0 0] /\ Grow w wr)) (fun q _ => (intOf q).toNat)
 case atStart =>
  exact ⟨h, l, m, s, hs, rfl, H0.out.1, H0.out.2.1, B0.out _ CW.out, B1.out _ CW.out, GW.out _ CW.out⟩
 case round =>
  obtain ⟨hc, lc, mc, sc, hsc, rfl, HR⟩ := hrel
  clear CG CW B0 B1 GW
  have OUT : Hid (dnN mc sc = (mc, sc) -> Blk wr w.heap.size 134 [.int .u64 (h' : Int), .int .u64 (l' : Int), .bool b] /\ sc = s') := fun e => by
   obtain ⟨x1, x2, x3, x4, x5⟩ := HR.out
   rw [e] at x2
   injection x2 with y1 y2
   subst y1 y2
   obtain ⟨z1, z2⟩ := x1.inj H0.out.2.2
   rw [<- z1, <- z2]
   exact ⟨x3, rfl⟩
  have c0 : wr.cell? ⟨w.heap.size, 0, none⟩ = some (.int .u64 (hc : Int)) := HR.out.2.2.1.cell 0
  have c1 : wr.cell? ⟨w.heap.size, 1, none⟩ = some (.int .u64 (lc : Int)) := HR.out.2.2.1.cell 1
  have c2 : wr.cell? ⟨w.heap.size, 2, none⟩ = some (.bool b) := HR.out.2.2.1.cell 2
  by_cases h0 : sc = 0
  case pos =>
   obtain ⟨hB, hS⟩ := OUT.out (by subst h0; simp [dnN])
   have HX : Hid (Blk wr (w.heap.size + 1) 38 [.int .i64 0, .int .i64 0, .int .i64 0, .string ⟨#[]⟩, .slice none 0 0, .slice none 0 0] /\ Grow w wr) := HR.out.2.2.2
   clear OUT HR H0 c0 c1 c2
   have hD := HD.out
   have hS0 : s' = 0 := by omega
   clear hS HD
   subst h0 hS0
   have y0 : wr.cell? ⟨w.heap.size, 0, none⟩ = some (.int .u64 z) := by rw [hD.z]; exact hB.cell 0
   have y1 : wr.cell? ⟨w.heap.size, 1, none⟩ = some (.int .u64 (l' : Int)) := hB.cell 1
   have y2 : wr.cell? ⟨w.heap.size, 2, none⟩ = some (.bool b) := hB.cell 2
   clear hB
   have e1 := fun h1 h2 => conv_less l' h1 (Nat.le_of_lt (n := l') (m := 9223372036854775808) h2)
   cases hD
   all_goals try (exfalso; omega)
   all_goals try (cases b)
   all_goals
    try replace e1 := e1 (by omega) (by omega)
    try have e2 := conv_pos l' (by omega)
    try have l0 : ¬ l' = 0 := by omega
    go_wp2_with ((first | with_reducible refine st_pre (.tmp 4) (.tmp 72) ?_ | with_reducible refine st_pre (.tmp 4) (.tmp 75) ?_ | with_reducible refine st_pre (.tmp 4) (.tmp 54) ?_); refine st_all rfl 38 _ _ rfl (w.heap.size + 1) 38 [.int .i64 0, .int .i64 0, .int .i64 0, .string ⟨#[]⟩, .slice none 0 0, .slice none 0 0] [.int .i64 _, .int .i64 _, .int .i64 _, .string ⟨#[]⟩, .slice none 0 0, .slice none 0 0] rfl rfl HX.out.1 rfl sV (ones rfl) ?_)
    intro w9 b9 g9
    have HG9 : Hid (Grow w w9) := Below.grown HX.out.2 g9 HX.out.2.size (by intro e he; injection he with he; omega)
    have HB9 : Hid (Blk w9 (w.heap.size + 1) 38 _) := b9
    clear b9 g9
    go_wp2
    exact bodyPost_ret (res_two rfl _ (w.heap.size + 1) 38 _ _ rfl HB9.out Tryz.underlying38 rfl sV) rfl ⟨rfl, HG9.out⟩
  have HP : Hid (∃ d, sc = d + 1) := ⟨sc - 1, by omega⟩
  obtain ⟨hq, lq, Wq⟩ := wd_of (mc / 10) (by have := HR.out.1.lt; omega)
  obtain ⟨r, hr⟩ : ∃ r, mc % 10 = r := ⟨_, rfl⟩
  have K : Hid (∀ W, Calls Tryz.prog 155 #[.agg #[.int .u64 (hc : Int), .int .u64 (lc : Int), .bool b]] W fun e w' => e = .returned (.tuple #[.agg #[.int .u64 (hq : Int), .int .u64 (lq : Int), .bool b], .int .u64 (r : Int)]) /\ Grow W w') := fun W => tenR hc lc mc hq lq b HR.out.1 Wq r hr W
  have HQ : Hid (Wd hq lq (mc / 10) /\ mc % 10 = r) := ⟨Wq, hr⟩
  clear Wq hr
  go_wp2_with fail
  refine (K.out _).mono ?_
  rintro e w6 ⟨rfl, g6⟩
  clear c0 c1 c2
  go_wp2_with (refine al_zero rfl 134 rfl [.int .u64 0, .int .u64 0, .bool false] zR ?_)
  intro bc w7 sz Bc gc
  go_wp2_with ((with_reducible refine st_pre (.tmp 6) (.tmp 23) ?_); refine st_all rfl 134 (.tmp 6) (.tmp 23) rfl bc 134 [.int .u64 0, .int .u64 0, .bool false] [.int .u64 (hq : Int), .int .u64 (lq : Int), .bool b] rfl rfl Bc rfl sR (ones rfl) ?_)
  intro w8 zB gd
  have HE : Hid (Blk w8 w.heap.size 134 [.int .u64 (hc : Int), .int .u64 (lc : Int), .bool b] /\ Blk w8 (w.heap.size + 1) 38 [.int .i64 0, .int .i64 0, .int .i64 0, .string ⟨#[]⟩, .slice none 0 0, .slice none 0 0] /\ Blk w8 bc 134 [.int .u64 (hq : Int), .int .u64 (lq : Int), .bool b] /\ Grow w w8 /\ w.heap.size + 1 < bc) := by
   obtain ⟨_, _, D0, D2, GG⟩ := HR.out
   have k : ∀ c t cs, Blk w6 c t cs -> Blk w8 c t cs := fun c t cs hb => (hb.kept gc (by simp)).kept gd (by intro e; injection e with e; have := hb.lt; omega)
   have q2 := (D2.grow g6).lt
   refine ⟨k _ _ _ (D0.grow g6), k _ _ _ (D2.grow g6), zB, ?_, by omega⟩
   have x1 := GG.trans g6
   have x2 : Below w.heap.size w w7 := Below.grown x1 gc x1.size (by intro e he; cases he)
   exact Below.grown x2 gd x2.size (by intro e he; injection he with he; have := x1.size; omega)
  have OUT2 : Hid (dnN mc sc = (mc, sc) -> Blk w8 w.heap.size 134 [.int .u64 (h' : Int), .int .u64 (l' : Int), .bool b] /\ sc = s') := fun e => by
   obtain ⟨h1, hS⟩ := OUT.out e
   have h2 := HR.out.2.2.1
   have h3 := HE.out.1
   refine ⟨?_, hS⟩
   unfold Blk at h1 h2 h3 ⊢
   rw [h3, <- h2, h1]
  clear zB gd Bc gc sz g6 K OUT
  by_cases hr0 : r = 0
  case neg =>
   obtain ⟨hB, hS⟩ := OUT2.out (by
    obtain ⟨d, hd⟩ := HP.out
    have := HQ.out.2
    rw [hd, dnN, if_neg (by omega)])
   have HX : Hid (Blk w8 (w.heap.size + 1) 38 [.int .i64 0, .int .i64 0, .int .i64 0, .string ⟨#[]⟩, .slice none 0 0, .slice none 0 0] /\ Grow w w8) := ⟨HE.out.2.1, HE.out.2.2.2.1⟩
   clear OUT2 HE HR H0 HQ HP
   have hD := HD.out
   have hS := hS.symm
   clear HD
   subst hS
   have hp : 0 < s' := by omega
   have y0 : w8.cell? ⟨w.heap.size, 0, none⟩ = some (.int .u64 z) := by rw [hD.z]; exact hB.cell 0
   have y1 : w8.cell? ⟨w.heap.size, 1, none⟩ = some (.int .u64 (l' : Int)) := hB.cell 1
   have y2 : w8.cell? ⟨w.heap.size, 2, none⟩ = some (.bool b) := hB.cell 2
   clear hB
   have e1 := fun h1 h2 => conv_less l' h1 (Nat.le_of_lt (n := l') (m := 9223372036854775808) h2)
   cases hD
   all_goals try (exfalso; omega)
   all_goals try (cases b)
   all_goals
    try replace e1 := e1 (by omega) (by omega)
    try have e2 := conv_pos l' (by omega)
    try have l0 : ¬ l' = 0 := by omega
    go_wp2_with ((first | with_reducible refine st_pre (.tmp 4) (.tmp 72) ?_ | with_reducible refine st_pre (.tmp 4) (.tmp 75) ?_ | with_reducible refine st_pre (.tmp 4) (.tmp 54) ?_); refine st_all rfl 38 _ _ rfl (w.heap.size + 1) 38 [.int .i64 0, .int .i64 0, .int .i64 0, .string ⟨#[]⟩, .slice none 0 0, .slice none 0 0] [.int .i64 _, .int .i64 _, .int .i64 _, .string ⟨#[]⟩, .slice none 0 0, .slice none 0 0] rfl rfl HX.out.1 rfl sV (ones rfl) ?_)
    intro w9 b9 g9
    have HG9 : Hid (Grow w w9) := Below.grown HX.out.2 g9 HX.out.2.size (by intro e he; injection he with he; omega)
    have HB9 : Hid (Blk w9 (w.heap.size + 1) 38 _) := b9
    clear b9 g9
    go_wp2
    exact bodyPost_ret (res_two rfl _ (w.heap.size + 1) 38 _ _ rfl HB9.out Tryz.underlying38 rfl sV) rfl ⟨rfl, HG9.out⟩
  subst hr0
  obtain ⟨sd, hsd⟩ : ∃ sd, sc - 1 = sd := ⟨_, rfl⟩
  have HLd : Hid (dnN (mc / 10) sd = (m', s')) := by
   obtain ⟨d, hd⟩ := HP.out
   have h1 := HR.out.2.1
   rw [hd, dnN, if_pos HQ.out.2] at h1
   rw [<- hsd, hd]
   exact h1
  have es : (sc : Int) - 1 = (sd : Int) := by omega
  have HSD : Hid (sc - 1 = sd /\ 0 < sc) := ⟨hsd, by omega⟩
  clear hsd OUT2
  obtain ⟨E0, E2, zB, GE, _⟩ := HE.out
  have z0 : w8.cell? ⟨bc, 0, none⟩ = some (.int .u64 (hq : Int)) := zB.cell 0
  have z1 : w8.cell? ⟨bc, 1, none⟩ = some (.int .u64 (lq : Int)) := zB.cell 1
  have z2 : w8.cell? ⟨bc, 2, none⟩ = some (.bool b) := zB.cell 2
  clear E2 zB GE
  go_wp2_with ((with_reducible refine st_pre (.tmp 2) (.tmp 27) ?_); refine st_all rfl 134 (.tmp 2) (.tmp 27) rfl w.heap.size 134 [.int .u64 (hc : Int), .int .u64 (lc : Int), .bool b] [.int .u64 (hq : Int), .int .u64 (lq : Int), .bool b] rfl rfl E0 rfl sR (ones rfl) ?_)
  intro w9 b9 g9
  have HZ : Hid (Blk w9 w.heap.size 134 [.int .u64 (hq : Int), .int .u64 (lq : Int), .bool b] /\ Blk w9 (w.heap.size + 1) 38 [.int .i64 0, .int .i64 0, .int .i64 0, .string ⟨#[]⟩, .slice none 0 0, .slice none 0 0] /\ Grow w w9) := by
   obtain ⟨_, E2, _, GE, _⟩ := HE.out
   exact ⟨b9, E2.kept g9 (by intro e; injection e with e; omega), Below.grown GE g9 GE.size (by intro e he; injection he with he; omega)⟩
  clear b9 g9 z0 z1 z2 E0 HE
  go_wp2
  go_roundw
  case rel => exact ⟨hq, lq, mc / 10, sd, by have := HSD.out; omega, rfl, HQ.out.1, HLd.out, HZ.out⟩
  case measure => have := HSD.out; simp [intOf]; omega
end Go.Proofs.YtobfdcdobhhagaaGreatDoor.D6
