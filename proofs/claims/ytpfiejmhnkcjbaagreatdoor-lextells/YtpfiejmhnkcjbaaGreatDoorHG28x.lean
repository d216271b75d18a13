/-
   ·  ·  ·  ·  ·  ·  · 
-/
import Derived.Test.YtpfiejmhnkcjbaaGreatDoorHD6Sh2
import Derived.Test.YtpfiejmhnkcjbaaGreatDoorHG25x
import Derived.OwnWalk
import Derived.Test.YtpfiejmhnkcjbaaGreatDoorHD6Ps
import Derived.Test.YtpfiejmhnkcjbaaGreatDoorHG26x
namespace Go.Proofs.YtpfiejmhnkcjbaaGreatDoor.D6
set_option maxRecDepth 8000
open Go.RowKit
set_option linter.unusedVariables false
theorem dotIx (R : ByteArray) (w : World) : Calls Tryz.prog 102 #[.string R, .string ⟨#[46]⟩] w fun e w' => e = .returned (.int .i64 (Lib.indexByte R.data.toList 46)) /\ w' = w := Any.stringslite_Index_one Tryz.lays219 R 46 w
theorem ix_split : ∀ l : List UInt8, (Lib.indexByte l 46 = -1 /\ ¬ (46 : UInt8) ∈ l) ∨ ∃ a b, l = a ++ 46 :: b /\ ¬ (46 : UInt8) ∈ a /\ Lib.indexByte l 46 = (a.length : Int)
 | [] => .inl ⟨rfl, by simp⟩
 | x :: l => by
   by_cases hx : x = 46
   . subst hx
     exact .inr ⟨[], l, rfl, by simp, by simp [Lib.indexByte]⟩
   . have hx' : (x == 46) = false := by simpa using hx
     have hx2 : ¬ (46 : UInt8) = x := fun e => hx e.symm
     rcases ix_split l with ⟨h1, h2⟩ | ⟨a, b, h1, h2, h3⟩
     . exact .inl ⟨by simp [Lib.indexByte, hx', h1], by simp [hx2, h2]⟩
     . refine .inr ⟨x :: a, b, by rw [h1]; rfl, by simp [hx2, h2], ?_⟩
       have : ¬ ((a.length : Int) == -1) = true := by
        simp
       simp only [Lib.indexByte, hx', h3, List.length_cons]
       simp [this]
theorem cutI_no (R : ByteArray) (K : Hid (∀ W, Calls Tryz.prog 102 #[.string R, .string ⟨#[46]⟩] W fun e w' => e = .returned (.int .i64 (-1)) /\ w' = W)) (w : World) :
 Calls Tryz.prog 78 #[.string R, .string ⟨#[46]⟩] w fun e w' => e = .returned (.tuple #[.string R, .string ⟨#[]⟩, .bool false]) /\ Grow w w' := by
 go_enter Tryz.func78, Tryz.ntmps78
 go_wp2_with fail
 refine (K.out _).mono ?_
 rintro e w2 ⟨rfl, rfl⟩
 go_wp2
 go_ret3
 exact ⟨rfl, Grow.refl _⟩
theorem cutI_yes (R : ByteArray) (i j : Nat) (hj : i + 1 = j) (hi : j <= R.size) (hR : R.size <= 1000000) (K : Hid (∀ W, Calls Tryz.prog 102 #[.string R, .string ⟨#[46]⟩] W fun e w' => e = .returned (.int .i64 (i : Int)) /\ w' = W)) (w : World) :
 Calls Tryz.prog 78 #[.string R, .string ⟨#[46]⟩] w fun e w' => e = .returned (.tuple #[.string (R.extract 0 i),   .string (R.extract j R.size), .bool true]) /\ Grow w w' := by
 have e1 : (i : Int) + 1 = (j : Int) := by omega
 have e2 : i <= R.size := by omega
 clear hj
 go_enter Tryz.func78, Tryz.ntmps78
 go_wp2_with fail
 refine (K.out _).mono ?_
 rintro e w2 ⟨rfl, rfl⟩
 go_wp2
 go_quiet (fail)
 go_wp2
 go_ret3
 exact ⟨rfl, grow_dq _ _⟩
theorem cutS (R A B : ByteArray) (d : Bool) (K : Hid (∀ W, Calls Tryz.prog 78 #[.string R, .string ⟨#[46]⟩] W fun e w' => e = .returned (.tuple #[.string A, .string B, .bool d]) /\ Grow W w')) (w : World) :
 Calls Tryz.prog 54 #[.string R, .string ⟨#[46]⟩] w fun e w' => e = .returned (.tuple #[.string A, .string B, .bool d]) /\ Grow w w' := by
 go_enter Tryz.func54, Tryz.ntmps54
 go_wp2_with fail
 refine (K.out _).mono ?_
 rintro e w2 ⟨rfl, g⟩
 have G : Hid (Grow w w2) := g
 clear g
 go_wp2
 go_ret3
 exact ⟨rfl, G.out⟩
inductive Cuts (R A B : ByteArray) : Bool -> Prop
 | none (h : ¬ (46 : UInt8) ∈ R.data.toList) (ha : A = R) (hb : B = ⟨#[]⟩) : Cuts R A B false
 | at (h : R.data.toList = A.data.toList ++ 46 :: B.data.toList) (ha : ¬ (46 : UInt8) ∈ A.data.toList) : Cuts R A B true
theorem cut_any (R : ByteArray) (hR : R.size <= 1000000) : ∃ A B d, Cuts R A B d /\ ∀ W, Calls Tryz.prog 54 #[.string R, .string ⟨#[46]⟩] W fun e w' => e = .returned (.tuple #[.string A, .string B, .bool d]) /\ Grow W w' := by
 rcases ix_split R.data.toList with ⟨h1, h2⟩ | ⟨a, b, h1, h2, h3⟩
 . exact ⟨R, ⟨#[]⟩, false, .none h2 rfl rfl, fun W => cutS _ _ _ _ (fun W => cutI_no R (fun W => by have := dotIx R W; rw [h1] at this; exact this) W) W⟩
 . have hl : R.size = a.length + 1 + b.length := by rw [size_list, h1]; simp; omega
   have ea : (R.extract 0 a.length).data.toList = a := by
    simp [h1]
   have eb : (R.extract (a.length + 1) R.size).data.toList = b := by
    simp [h1, hl]
   refine ⟨_, _, true, .at ?_ ?_, fun W => cutS _ _ _ _ (fun W => cutI_yes R a.length (a.length + 1) rfl (by omega) hR (fun W => by have := dotIx R W; rw [h3] at this; exact this) W) W⟩
   . rw [ea, eb, h1]
   . rw [ea]; exact h2
end Go.Proofs.YtpfiejmhnkcjbaaGreatDoor.D6
namespace Go.Proofs.YtpfiejmhnkcjbaaGreatDoor.D6
open Go.RowKit
set_option linter.unusedVariables false
def Po.k : Option Rs -> Int
 | none => 0
 | some r => r.k
def Po.n : Option Rs -> Int
 | none => 0
 | some r => r.n
def Po.s : Option Rs -> Int
 | none => 0
 | some r => r.s
def Po.e : Option Rs -> Int
 | none => 3
 | some r => r.e
inductive Minus (s R : ByteArray) : Bool -> Prop
 | yes (h : s.data.toList = 45 :: R.data.toList) : Minus s R true
 | no (h : ¬ s.data.toList.head? = some 45) (hr : R = s) : Minus s R false
def partB (B : ByteArray) : Bool := allDig B.data.toList && decide (B.size <= 18)
def parseV (b d : Bool) (R A B : ByteArray) : Option Rs :=
 if wholeB A = true /\ (d = true -> partB B = true) /\ (b = true -> noughtB R.data.toList = false) then
  (if 19 < A.size then some .rg else some (rs (sgn b (numL A.data.toList * 10 ^ B.size + numL B.data.toList)) B.size))
 else none
theorem minus_any (s : ByteArray) : ∃ R b, Minus s R b /\ R.size <= s.size /\ ∀ W, Calls Tryz.prog 50 #[.string s, .string ⟨#[45]⟩] W fun e w' => e = .returned (.tuple #[.string R, .bool b]) /\ Grow W w' := by
 have K : ∀ W, _ := fun W => Any.strings_CutPrefix Tryz.lays103 s ⟨#[45]⟩ W
 refine ⟨⟨(Lib.trimPrefix s.data.toList [45]).toArray⟩, Lib.hasPrefix s.data.toList [45], ?_, ?_, fun W => (K W).mono fun e w' ⟨h1, h2⟩ => ⟨h1, by rw [h2]; exact Grow.refl _⟩⟩
 . cases hl : s.data.toList with
   | nil => exact .no (by rw [hl]; simp) (by rw [<- hl]; exact of_list (by rw [hl]; rfl))
   | cons a r =>
     by_cases ha : a = 45
     . subst ha
       have e : Lib.hasPrefix (45 :: r) [45] = true := by simp [Lib.hasPrefix]
       rw [e]
       refine .yes ?_
       simp [Lib.trimPrefix, e, hl]
     . have e : Lib.hasPrefix (a :: r) [45] = false := by
        have h2 : ¬ (45 : UInt8) = a := fun h => ha h.symm
        show (((45 : UInt8) == a) && [].isPrefixOf r) = false
        rw [show ((45 : UInt8) == a) = false by simpa using h2]
        rfl
       rw [e]
       refine .no (by rw [hl]; simpa using ha) (of_list ?_)
       simp [Lib.trimPrefix, e, hl]
 . rw [size_list, size_list]
   show (Lib.trimPrefix s.data.toList [45]).length <= _
   unfold Lib.trimPrefix
   split
   . simp
   . exact Nat.le_refl _
theorem wordG (s : ByteArray) (hs : s.size <= 19) (hd : s.data.toList.all dig10 = true) (w : World) : Calls Tryz.prog 74 #[.string s] w fun e w' => e = .returned (.int .u64 (numL s.data.toList : Int)) /\ Grow w w' :=
 (wordOf_any s hs hd w).mono fun e w' ⟨he, hw⟩ => ⟨he, by rw [hw]; exact Grow.refl _⟩
theorem tensG (n : Nat) (hn : n <= 18) (w : World) : Calls Tryz.prog 75 #[.int .i64 (n : Int)] w fun e w' => e = .returned (.int .u64 ((10 ^ n : Nat) : Int)) /\ Grow w w' :=
 (tensD n hn w).mono fun e w' ⟨he, hw⟩ => ⟨he, by rw [hw]; exact Grow.refl _⟩
theorem whole_dig {A : ByteArray} (h : wholeB A = true) : A.data.toList.all dig10 = true := by
 unfold wholeB allDig at h
 simp only [Bool.and_eq_true] at h
 exact h.1.2
theorem part_dig {B : ByteArray} (h : partB B = true) : B.data.toList.all dig10 = true /\ B.size <= 18 := by
 unfold partB allDig at h
 simp only [Bool.and_eq_true, decide_eq_true_eq] at h
 exact ⟨h.1.2, h.2⟩
theorem words (A B : ByteArray) (hA : A.size <= 19) (hB : B.size <= 18) (dA : A.data.toList.all dig10 = true) (dB : B.data.toList.all dig10 = true) :
 ∃ h1 l1 h l, Wd h1 l1 (numL A.data.toList * 10 ^ B.size) /\ Wd h l (numL A.data.toList * 10 ^ B.size + numL B.data.toList) /\ numL A.data.toList < 18446744073709551616 /\ 10 ^ B.size < 18446744073709551616 /\ numL B.data.toList < 18446744073709551616 := by
 have a1 := numL_lt A.data.toList.length _ rfl dA
 have b1 := numL_lt B.data.toList.length _ rfl dB
 rw [<- size_list] at a1 b1
 have a2 : numL A.data.toList < 10 ^ 19 := Nat.lt_of_lt_of_le a1 (pow_le hA)
 have b2 : numL B.data.toList < 10 ^ 18 := Nat.lt_of_lt_of_le b1 (pow_le hB)
 have p := pow_le (k := B.size) (n := 18) hB
 have m : numL A.data.toList * 10 ^ B.size <= 10 ^ 19 * 10 ^ 18 := Nat.mul_le_mul (Nat.le_of_lt a2) p
 generalize numL A.data.toList * 10 ^ B.size = X at *
 generalize numL A.data.toList = a at *
 generalize numL B.data.toList = b at *
 generalize 10 ^ B.size = c at *
 obtain ⟨h1, l1, W1⟩ := wd_of X (Nat.lt_of_le_of_lt m (by decide))
 obtain ⟨h, l, W2⟩ := wd_of (X + b) (Nat.lt_of_lt_of_le (Nat.add_lt_add_of_le_of_lt m b2) (by decide))
 exact ⟨h1, l1, h, l, W1, W2, Nat.lt_of_lt_of_le a2 (by decide), Nat.lt_of_le_of_lt p (by decide), Nat.lt_of_lt_of_le b2 (by decide)⟩
theorem dParse_any (s R A B : ByteArray) (b d : Bool) (hR : R.size <= 1000000) (hA : A.size <= 1000000) (hB : B.size <= 1000000) (hd : d = false -> B = ⟨#[]⟩)
 (CP : ∀ W, Calls Tryz.prog 50 #[.string s, .string ⟨#[45]⟩] W fun e w' => e = .returned (.tuple #[.string R, .bool b]) /\ Grow W w')
 (CT : ∀ W, Calls Tryz.prog 54 #[.string R, .string ⟨#[46]⟩] W fun e w' => e = .returned (.tuple #[.string A, .string B, .bool d]) /\ Grow W w') (w : World) :
 Calls Tryz.prog 53 #[.string s] w fun e w' => e = .returned (.tuple #[.agg #[.int .i64 (Po.k (parseV b d R A B)), .int .i64 (Po.n (parseV b d R A B)), .int .i64 (Po.s (parseV b d R A B)), .string ⟨#[]⟩, .slice none 0 0, .slice none 0 0], .int .i64 (Po.e (parseV b d R A B))]) /\ Grow w w' := by
 have KW : ∀ W, _ := fun W => isWhole_any A hA W
 have KP : ∀ W, _ := fun W => isPart_any B hB W
 have KN : ∀ W, _ := fun W => isNought_any R hR W
 change ∀ W, Calls Tryz.prog 71 #[.string B] W fun e w' => e = .returned (.bool (partB B)) /\ Grow W w' at KP
 cases hw : wholeB A with
 | false =>
   rw [hw] at KW
   have e : parseV b d R A B = none := by unfold parseV; rw [if_neg (by rw [hw]; simp)]
   rw [e]
   exact parse_a s R A B b d CP CT KW w
 | true =>
   rw [hw] at KW
   by_cases hp : d = true -> partB B = true
   . by_cases hn : b = true -> noughtB R.data.toList = false
     . have e : parseV b d R A B = (if 19 < A.size then some .rg else some (rs (sgn b (numL A.data.toList * 10 ^ B.size + numL B.data.toList)) B.size)) := by unfold parseV; rw [if_pos ⟨hw, hp, hn⟩]
       rw [e]
       by_cases hl : 19 < A.size
       . rw [if_pos hl]
         cases d
         . cases b
           . exact parse_lip s R A B hl CP CT KW w
           . rw [hn rfl] at KN
             exact parse_lin s R A B hl CP CT KW KN w
         . rw [hp rfl] at KP
           cases b
           . exact parse_ldp s R A B hl CP CT KW KP w
           . rw [hn rfl] at KN
             exact parse_ldn s R A B hl CP CT KW KP KN w
       . rw [if_neg hl]
         have dB : B.data.toList.all dig10 = true /\ B.size <= 18 := by
          cases d
          . rw [hd rfl]
            exact ⟨rfl, by decide⟩
          . exact part_dig (hp rfl)
         have dA := whole_dig hw
         obtain ⟨h1, l1, h, l, W1, W2, x1, x2, x3⟩ := words A B (by omega) dB.2 dA dB.1
         have V : ∀ W, _ := fun W => value_any b h l _ B.size (by have := dB.2; omega) W2 _ rfl W
         have P := fun W => product_any (numL A.data.toList) (10 ^ B.size) h1 l1 x1 x2 W1 W
         have PL := fun W => plusW h1 l1 _ 0 (numL B.data.toList) (numL B.data.toList) h l W1 ⟨by omega, x3, by omega⟩ W2 W
         have T := fun W => tensG B.size dB.2 W
         have Wa := fun W => wordG A (by omega) dA W
         have Wb := fun W => wordG B (by have := dB.2; omega) dB.1 W
         cases d
         . cases b
           . exact parse_vip s R A B (by omega) _ _ h1 l1 _ h l _ CP CT KW Wa T P Wb PL V w
           . rw [hn rfl] at KN
             exact parse_vin s R A B (by omega) _ _ h1 l1 _ h l _ CP CT KW KN Wa T P Wb PL V w
         . rw [hp rfl] at KP
           cases b
           . exact parse_vdp s R A B (by omega) _ _ h1 l1 _ h l _ CP CT KW KP Wa T P Wb PL V w
           . rw [hn rfl] at KN
             exact parse_vdn s R A B (by omega) _ _ h1 l1 _ h l _ CP CT KW KP KN Wa T P Wb PL V w
     . have e : parseV b d R A B = none := by unfold parseV; rw [if_neg (fun h => hn h.2.2)]
       rw [e]
       obtain ⟨rfl, hn2⟩ : b = true /\ noughtB R.data.toList = true := by
        cases b <;> cases h : noughtB R.data.toList <;> simp_all
       rw [hn2] at KN
       cases d
       . exact parse_ci s R A B CP CT KW KN w
       . rw [hp rfl] at KP
         exact parse_cd s R A B CP CT KW KP KN w
   . have e : parseV b d R A B = none := by unfold parseV; rw [if_neg (fun h => hp h.2.1)]
     rw [e]
     obtain ⟨rfl, hp2⟩ : d = true /\ partB B = false := by
      cases d <;> cases h : partB B <;> simp_all
     rw [hp2] at KP
     exact parse_b s R A B b CP CT KW KP w
end Go.Proofs.YtpfiejmhnkcjbaaGreatDoor.D6
namespace Go.Proofs.YtpfiejmhnkcjbaaGreatDoor.D6
set_option maxHeartbeats 1000000
set_option maxRecDepth 8000
open Go.RowKit
set_option linter.unusedVariables false
def strSize : Value -> Nat
 | .string b => b.size
 | _ => 0
theorem zeros_none (D : ByteArray) : zeros 0 ++ D = D := by
 apply ByteArray.ext
 simp [zeros, ByteArray.data_append]
theorem zeros_more (j : Nat) (D : ByteArray) : (⟨#[48]⟩ : ByteArray) ++ (zeros j ++ D) = zeros (j + 1) ++ D := by
 apply ByteArray.ext
 apply Array.toList_inj.1
 simp [zeros, ByteArray.data_append, List.replicate_succ]
theorem rText_i_p (k1 n1 : Int) (na1 : Option Addr) (nc1 : Nat) (ka1 : Option Addr) (kc1 : Nat) (A : Nat) (D : ByteArray) (hD : D.size <= 20) (hn : 0 <= n1) (K1 : Hid (∀ W, Calls Tryz.prog 15 #[.agg #[.int .i64 k1, .int .i64 n1, .int .i64 0, .string ⟨#[]⟩, .slice na1 0 nc1, .slice ka1 0 kc1]] W fun e w' => e = .returned (.bool true) /\ Grow W w')) (K2 : Hid (∀ W, Calls Tryz.prog 28 #[.int .i64 n1] W fun e w' => e = .returned (.int .u64 (A : Int)) /\ Grow W w')) (K3 : Hid (∀ W, Calls Tryz.prog 27 #[.int .u64 (A : Int)] W fun e w' => e = .returned (.string D) /\ Grow W w')) (w : World) :
 Calls Tryz.prog 16 #[.agg #[.int .i64 k1, .int .i64 n1, .int .i64 0, .string ⟨#[]⟩, .slice na1 0 nc1, .slice ka1 0 kc1]] w fun e w' => e = .returned (.tuple #[.string D, .int .i64 0]) /\ Grow w w' := by
 have hsz : ¬ 9223372036854775807 < 1 + D.size := by omega
 go_enter Tryz.func16, Tryz.ntmps16
 go_wp2_with fail
 obtain ⟨w1, HW1, H0⟩ : ∃ w1, (w.alloc (Obj.cells #[.int .i64 k1, .int .i64 n1, .int .i64 0, .string ⟨#[]⟩, .slice na1 0 nc1, .slice ka1 0 kc1] 41)) = w1 /\ Hid (Blk w1 (w.heap.size) 41 [.int .i64 k1, .int .i64 n1, .int .i64 0, .string ⟨#[]⟩, .slice na1 0 nc1, .slice ka1 0 kc1] /\ Grow w w1) := ⟨_, rfl, (blk_at rfl), ((Grow.refl _).alloc _)⟩
 rw [HW1]
 clear HW1
 refine (K1.out _).mono ?_
 rintro e w2 ⟨rfl, g0⟩
 have H1 : Hid (Blk w2 (w.heap.size) 41 [.int .i64 k1, .int .i64 n1, .int .i64 0, .string ⟨#[]⟩, .slice na1 0 nc1, .slice ka1 0 kc1] /\ Grow w w2) := ⟨(H0.out.1).grow g0, Grow.trans (H0.out.2) g0⟩
 clear H0 g0
 have q0_0 : w2.cell? ⟨w.heap.size, 0, none⟩ = some (.int .i64 k1) := (H1.out.1).cell 0
 have q0_1 : w2.cell? ⟨w.heap.size, 1, none⟩ = some (.int .i64 n1) := (H1.out.1).cell 1
 have q0_2 : w2.cell? ⟨w.heap.size, 2, none⟩ = some (.int .i64 0) := (H1.out.1).cell 2
 have q0_3 : w2.cell? ⟨w.heap.size, 3, none⟩ = some (.string ⟨#[]⟩) := (H1.out.1).cell 3
 have q0_4 : w2.cell? ⟨w.heap.size, 4, none⟩ = some (.slice na1 0 nc1) := (H1.out.1).cell 4
 have q0_5 : w2.cell? ⟨w.heap.size, 5, none⟩ = some (.slice ka1 0 kc1) := (H1.out.1).cell 5
 go_wp2_with fail
 clear q0_0 q0_1 q0_2 q0_3 q0_4 q0_5
 refine (K2.out _).mono ?_
 rintro e w3 ⟨rfl, g1⟩
 have H2 : Hid (Blk w3 (w.heap.size) 41 [.int .i64 k1, .int .i64 n1, .int .i64 0, .string ⟨#[]⟩, .slice na1 0 nc1, .slice ka1 0 kc1] /\ Grow w w3) := ⟨(H1.out.1).grow g1, Grow.trans (H1.out.2) g1⟩
 clear H1 g1
 go_wp2_with fail
 refine (K3.out _).mono ?_
 rintro e w4 ⟨rfl, g2⟩
 have H3 : Hid (Blk w4 (w.heap.size) 41 [.int .i64 k1, .int .i64 n1, .int .i64 0, .string ⟨#[]⟩, .slice na1 0 nc1, .slice ka1 0 kc1] /\ Grow w w4) := ⟨(H2.out.1).grow g2, Grow.trans (H2.out.2) g2⟩
 clear H2 g2
 have q0_0 : w4.cell? ⟨w.heap.size, 0, none⟩ = some (.int .i64 k1) := (H3.out.1).cell 0
 have q0_1 : w4.cell? ⟨w.heap.size, 1, none⟩ = some (.int .i64 n1) := (H3.out.1).cell 1
 have q0_2 : w4.cell? ⟨w.heap.size, 2, none⟩ = some (.int .i64 0) := (H3.out.1).cell 2
 have q0_3 : w4.cell? ⟨w.heap.size, 3, none⟩ = some (.string ⟨#[]⟩) := (H3.out.1).cell 3
 have q0_4 : w4.cell? ⟨w.heap.size, 4, none⟩ = some (.slice na1 0 nc1) := (H3.out.1).cell 4
 have q0_5 : w4.cell? ⟨w.heap.size, 5, none⟩ = some (.slice ka1 0 kc1) := (H3.out.1).cell 5
 go_wp2
 go_ret2
 exact ⟨rfl, H3.out.2⟩
theorem rText_d_p (k1 n1 : Int) (s1 : Nat) (na1 : Option Addr) (nc1 : Nat) (ka1 : Option Addr) (kc1 : Nat) (s0 : 0 < s1) (s18 : s1 <= 18) (A : Nat) (D : ByteArray) (hD0 : 0 < D.size) (hD : D.size <= 20) (hn : 0 <= n1) (K1 : Hid (∀ W, Calls Tryz.prog 15 #[.agg #[.int .i64 k1, .int .i64 n1, .int .i64 (s1 : Int), .string ⟨#[]⟩, .slice na1 0 nc1, .slice ka1 0 kc1]] W fun e w' => e = .returned (.bool true) /\ Grow W w')) (K2 : Hid (∀ W, Calls Tryz.prog 28 #[.int .i64 n1] W fun e w' => e = .returned (.int .u64 (A : Int)) /\ Grow W w')) (K3 : Hid (∀ W, Calls Tryz.prog 27 #[.int .u64 (A : Int)] W fun e w' => e = .returned (.string D) /\ Grow W w')) (w : World) :
 Calls Tryz.prog 16 #[.agg #[.int .i64 k1, .int .i64 n1, .int .i64 (s1 : Int), .string ⟨#[]⟩, .slice na1 0 nc1, .slice ka1 0 kc1]] w fun e w' => e = .returned (.tuple #[.string (dotN D s1), .int .i64 0]) /\ Grow w w' := by
 go_enter Tryz.func16, Tryz.ntmps16
 go_wp2_with fail
 obtain ⟨w1, HW1, H0⟩ : ∃ w1, (w.alloc (Obj.cells #[.int .i64 k1, .int .i64 n1, .int .i64 (s1 : Int), .string ⟨#[]⟩, .slice na1 0 nc1, .slice ka1 0 kc1] 41)) = w1 /\ Hid (Blk w1 (w.heap.size) 41 [.int .i64 k1, .int .i64 n1, .int .i64 (s1 : Int), .string ⟨#[]⟩, .slice na1 0 nc1, .slice ka1 0 kc1] /\ Grow w w1) := ⟨_, rfl, (blk_at rfl), ((Grow.refl _).alloc _)⟩
 rw [HW1]
 clear HW1
 refine (K1.out _).mono ?_
 rintro e w2 ⟨rfl, g0⟩
 have H1 : Hid (Blk w2 (w.heap.size) 41 [.int .i64 k1, .int .i64 n1, .int .i64 (s1 : Int), .string ⟨#[]⟩, .slice na1 0 nc1, .slice ka1 0 kc1] /\ Grow w w2) := ⟨(H0.out.1).grow g0, Grow.trans (H0.out.2) g0⟩
 clear H0 g0
 have q0_0 : w2.cell? ⟨w.heap.size, 0, none⟩ = some (.int .i64 k1) := (H1.out.1).cell 0
 have q0_1 : w2.cell? ⟨w.heap.size, 1, none⟩ = some (.int .i64 n1) := (H1.out.1).cell 1
 have q0_2 : w2.cell? ⟨w.heap.size, 2, none⟩ = some (.int .i64 (s1 : Int)) := (H1.out.1).cell 2
 have q0_3 : w2.cell? ⟨w.heap.size, 3, none⟩ = some (.string ⟨#[]⟩) := (H1.out.1).cell 3
 have q0_4 : w2.cell? ⟨w.heap.size, 4, none⟩ = some (.slice na1 0 nc1) := (H1.out.1).cell 4
 have q0_5 : w2.cell? ⟨w.heap.size, 5, none⟩ = some (.slice ka1 0 kc1) := (H1.out.1).cell 5
 go_wp2_with fail
 clear q0_0 q0_1 q0_2 q0_3 q0_4 q0_5
 refine (K2.out _).mono ?_
 rintro e w3 ⟨rfl, g1⟩
 have H2 : Hid (Blk w3 (w.heap.size) 41 [.int .i64 k1, .int .i64 n1, .int .i64 (s1 : Int), .string ⟨#[]⟩, .slice na1 0 nc1, .slice ka1 0 kc1] /\ Grow w w3) := ⟨(H1.out.1).grow g1, Grow.trans (H1.out.2) g1⟩
 clear H1 g1
 go_wp2_with fail
 refine (K3.out _).mono ?_
 rintro e w4 ⟨rfl, g2⟩
 have H3 : Hid (Blk w4 (w.heap.size) 41 [.int .i64 k1, .int .i64 n1, .int .i64 (s1 : Int), .string ⟨#[]⟩, .slice na1 0 nc1, .slice ka1 0 kc1] /\ Grow w w4) := ⟨(H2.out.1).grow g2, Grow.trans (H2.out.2) g2⟩
 clear H2 g2
 have q0_0 : w4.cell? ⟨w.heap.size, 0, none⟩ = some (.int .i64 k1) := (H3.out.1).cell 0
 have q0_1 : w4.cell? ⟨w.heap.size, 1, none⟩ = some (.int .i64 n1) := (H3.out.1).cell 1
 have q0_2 : w4.cell? ⟨w.heap.size, 2, none⟩ = some (.int .i64 (s1 : Int)) := (H3.out.1).cell 2
 have q0_3 : w4.cell? ⟨w.heap.size, 3, none⟩ = some (.string ⟨#[]⟩) := (H3.out.1).cell 3
 have q0_4 : w4.cell? ⟨w.heap.size, 4, none⟩ = some (.slice na1 0 nc1) := (H3.out.1).cell 4
 have q0_5 : w4.cell? ⟨w.heap.size, 5, none⟩ = some (.slice ka1 0 kc1) := (H3.out.1).cell 5
 go_wp2
 clear q0_0 q0_1 q0_2 q0_3 q0_4 q0_5
 go_loopw [4] (fun q wr => ∃ S : ByteArray, S.size <= 40 /\ q = .string S /\ Hid ((∃ j, S = zeros j ++ D /\ (j = 0 ∨ S.size <= s1 + 1)) /\ Blk wr w.heap.size 41 [.int .i64 k1, .int .i64 n1, .int .i64 (s1 : Int), .string ⟨#[]⟩, .slice na1 0 nc1, .slice ka1 0 kc1] /\ Grow w wr)) (fun q _ => s1 + 1 - strSize q)
 case atStart => exact ⟨D, by omega, rfl, ⟨0, (zeros_none D).symm, .inl rfl⟩, H3.out.1, H3.out.2⟩
 case round =>
  obtain ⟨S, hS, rfl, HI⟩ := hrel
  clear H3
  have y1 : wr.cell? ⟨w.heap.size, 1, none⟩ = some (.int .i64 n1) := HI.out.2.1.cell 1
  have y2 : wr.cell? ⟨w.heap.size, 2, none⟩ = some (.int .i64 (s1 : Int)) := HI.out.2.1.cell 2
  by_cases hle : S.size <= s1
  . have hsz : ¬ 9223372036854775807 < 1 + S.size := by omega
    go_wp2
    go_roundw
    case rel =>
     obtain ⟨⟨j, e, hj⟩, hb, hg⟩ := HI.out
     have e1 : ((⟨#[48]⟩ : ByteArray) ++ S).size = 1 + S.size := by rw [ByteArray.size_append]; rfl
     exact ⟨_, by omega, rfl, ⟨j + 1, by rw [e, zeros_more], .inr (by omega)⟩, hb, hg⟩
    case measure =>
     have e1 : ((⟨#[48]⟩ : ByteArray) ++ S).size = 1 + S.size := by rw [ByteArray.size_append]; rfl
     simp only [strSize]
     omega
  . obtain ⟨p, hp⟩ : ∃ p, S.size - s1 = p := ⟨_, rfl⟩
    have e2 : (S.size : Int) - (s1 : Int) = (p : Int) := by omega
    have e4 : p <= S.size := by omega
    have HT : Hid (dotN D s1 = S.extract 0 p ++ ⟨#[46]⟩ ++ S.extract p S.size /\ (S.extract 0 p ++ ⟨#[46]⟩ ++ S.extract p S.size).size = S.size + 1) := by
     obtain ⟨⟨j, e, hj⟩, hb, hg⟩ := HI.out
     have q : S.size = j + D.size := by rw [e, ByteArray.size_append, zeros_size]
     refine ⟨?_, dotAt_size S p e4⟩
     unfold dotN
     by_cases hd : D.size <= s1
     . rw [if_pos hd, show s1 + 1 - D.size = j by omega, <- e, show 1 = p by omega]
       rfl
     . have j0 : j = 0 := by omega
       rw [if_neg hd]
       subst j0
       rw [zeros_none] at e
       subst e
       rw [hp]
       rfl
    have hsz : ¬ 9223372036854775807 < 1 + (S.extract 0 p ++ ⟨#[46]⟩ ++ S.extract p S.size).size := by rw [HT.out.2]; omega
    clear hp
    go_wp2
    go_quiet (fail)
    go_wp2
    go_ret2
    exact ⟨by rw [HT.out.1]; rfl, HI.out.2.2.trans (grow_dq _ _)⟩
theorem rText_i_n (k1 n1 : Int) (na1 : Option Addr) (nc1 : Nat) (ka1 : Option Addr) (kc1 : Nat) (A : Nat) (D : ByteArray) (hD : D.size <= 20) (hn : n1 < 0) (K1 : Hid (∀ W, Calls Tryz.prog 15 #[.agg #[.int .i64 k1, .int .i64 n1, .int .i64 0, .string ⟨#[]⟩, .slice na1 0 nc1, .slice ka1 0 kc1]] W fun e w' => e = .returned (.bool true) /\ Grow W w')) (K2 : Hid (∀ W, Calls Tryz.prog 28 #[.int .i64 n1] W fun e w' => e = .returned (.int .u64 (A : Int)) /\ Grow W w')) (K3 : Hid (∀ W, Calls Tryz.prog 27 #[.int .u64 (A : Int)] W fun e w' => e = .returned (.string D) /\ Grow W w')) (w : World) :
 Calls Tryz.prog 16 #[.agg #[.int .i64 k1, .int .i64 n1, .int .i64 0, .string ⟨#[]⟩, .slice na1 0 nc1, .slice ka1 0 kc1]] w fun e w' => e = .returned (.tuple #[.string (⟨#[45]⟩ ++ D), .int .i64 0]) /\ Grow w w' := by
 have hsz : ¬ 9223372036854775807 < 1 + D.size := by omega
 go_enter Tryz.func16, Tryz.ntmps16
 go_wp2_with fail
 obtain ⟨w1, HW1, H0⟩ : ∃ w1, (w.alloc (Obj.cells #[.int .i64 k1, .int .i64 n1, .int .i64 0, .string ⟨#[]⟩, .slice na1 0 nc1, .slice ka1 0 kc1] 41)) = w1 /\ Hid (Blk w1 (w.heap.size) 41 [.int .i64 k1, .int .i64 n1, .int .i64 0, .string ⟨#[]⟩, .slice na1 0 nc1, .slice ka1 0 kc1] /\ Grow w w1) := ⟨_, rfl, (blk_at rfl), ((Grow.refl _).alloc _)⟩
 rw [HW1]
 clear HW1
 refine (K1.out _).mono ?_
 rintro e w2 ⟨rfl, g0⟩
 have H1 : Hid (Blk w2 (w.heap.size) 41 [.int .i64 k1, .int .i64 n1, .int .i64 0, .string ⟨#[]⟩, .slice na1 0 nc1, .slice ka1 0 kc1] /\ Grow w w2) := ⟨(H0.out.1).grow g0, Grow.trans (H0.out.2) g0⟩
 clear H0 g0
 have q0_0 : w2.cell? ⟨w.heap.size, 0, none⟩ = some (.int .i64 k1) := (H1.out.1).cell 0
 have q0_1 : w2.cell? ⟨w.heap.size, 1, none⟩ = some (.int .i64 n1) := (H1.out.1).cell 1
 have q0_2 : w2.cell? ⟨w.heap.size, 2, none⟩ = some (.int .i64 0) := (H1.out.1).cell 2
 have q0_3 : w2.cell? ⟨w.heap.size, 3, none⟩ = some (.string ⟨#[]⟩) := (H1.out.1).cell 3
 have q0_4 : w2.cell? ⟨w.heap.size, 4, none⟩ = some (.slice na1 0 nc1) := (H1.out.1).cell 4
 have q0_5 : w2.cell? ⟨w.heap.size, 5, none⟩ = some (.slice ka1 0 kc1) := (H1.out.1).cell 5
 go_wp2_with fail
 clear q0_0 q0_1 q0_2 q0_3 q0_4 q0_5
 refine (K2.out _).mono ?_
 rintro e w3 ⟨rfl, g1⟩
 have H2 : Hid (Blk w3 (w.heap.size) 41 [.int .i64 k1, .int .i64 n1, .int .i64 0, .string ⟨#[]⟩, .slice na1 0 nc1, .slice ka1 0 kc1] /\ Grow w w3) := ⟨(H1.out.1).grow g1, Grow.trans (H1.out.2) g1⟩
 clear H1 g1
 go_wp2_with fail
 refine (K3.out _).mono ?_
 rintro e w4 ⟨rfl, g2⟩
 have H3 : Hid (Blk w4 (w.heap.size) 41 [.int .i64 k1, .int .i64 n1, .int .i64 0, .string ⟨#[]⟩, .slice na1 0 nc1, .slice ka1 0 kc1] /\ Grow w w4) := ⟨(H2.out.1).grow g2, Grow.trans (H2.out.2) g2⟩
 clear H2 g2
 have q0_0 : w4.cell? ⟨w.heap.size, 0, none⟩ = some (.int .i64 k1) := (H3.out.1).cell 0
 have q0_1 : w4.cell? ⟨w.heap.size, 1, none⟩ = some (.int .i64 n1) := (H3.out.1).cell 1
 have q0_2 : w4.cell? ⟨w.heap.size, 2, none⟩ = some (.int .i64 0) := (H3.out.1).cell 2
 have q0_3 : w4.cell? ⟨w.heap.size, 3, none⟩ = some (.string ⟨#[]⟩) := (H3.out.1).cell 3
 have q0_4 : w4.cell? ⟨w.heap.size, 4, none⟩ = some (.slice na1 0 nc1) := (H3.out.1).cell 4
 have q0_5 : w4.cell? ⟨w.heap.size, 5, none⟩ = some (.slice ka1 0 kc1) := (H3.out.1).cell 5
 go_wp2
 go_ret2
 exact ⟨rfl, H3.out.2⟩
theorem rText_d_n (k1 n1 : Int) (s1 : Nat) (na1 : Option Addr) (nc1 : Nat) (ka1 : Option Addr) (kc1 : Nat) (s0 : 0 < s1) (s18 : s1 <= 18) (A : Nat) (D : ByteArray) (hD0 : 0 < D.size) (hD : D.size <= 20) (hn : n1 < 0) (K1 : Hid (∀ W, Calls Tryz.prog 15 #[.agg #[.int .i64 k1, .int .i64 n1, .int .i64 (s1 : Int), .string ⟨#[]⟩, .slice na1 0 nc1, .slice ka1 0 kc1]] W fun e w' => e = .returned (.bool true) /\ Grow W w')) (K2 : Hid (∀ W, Calls Tryz.prog 28 #[.int .i64 n1] W fun e w' => e = .returned (.int .u64 (A : Int)) /\ Grow W w')) (K3 : Hid (∀ W, Calls Tryz.prog 27 #[.int .u64 (A : Int)] W fun e w' => e = .returned (.string D) /\ Grow W w')) (w : World) :
 Calls Tryz.prog 16 #[.agg #[.int .i64 k1, .int .i64 n1, .int .i64 (s1 : Int), .string ⟨#[]⟩, .slice na1 0 nc1, .slice ka1 0 kc1]] w fun e w' => e = .returned (.tuple #[.string (⟨#[45]⟩ ++ dotN D s1), .int .i64 0]) /\ Grow w w' := by
 go_enter Tryz.func16, Tryz.ntmps16
 go_wp2_with fail
 obtain ⟨w1, HW1, H0⟩ : ∃ w1, (w.alloc (Obj.cells #[.int .i64 k1, .int .i64 n1, .int .i64 (s1 : Int), .string ⟨#[]⟩, .slice na1 0 nc1, .slice ka1 0 kc1] 41)) = w1 /\ Hid (Blk w1 (w.heap.size) 41 [.int .i64 k1, .int .i64 n1, .int .i64 (s1 : Int), .string ⟨#[]⟩, .slice na1 0 nc1, .slice ka1 0 kc1] /\ Grow w w1) := ⟨_, rfl, (blk_at rfl), ((Grow.refl _).alloc _)⟩
 rw [HW1]
 clear HW1
 refine (K1.out _).mono ?_
 rintro e w2 ⟨rfl, g0⟩
 have H1 : Hid (Blk w2 (w.heap.size) 41 [.int .i64 k1, .int .i64 n1, .int .i64 (s1 : Int), .string ⟨#[]⟩, .slice na1 0 nc1, .slice ka1 0 kc1] /\ Grow w w2) := ⟨(H0.out.1).grow g0, Grow.trans (H0.out.2) g0⟩
 clear H0 g0
 have q0_0 : w2.cell? ⟨w.heap.size, 0, none⟩ = some (.int .i64 k1) := (H1.out.1).cell 0
 have q0_1 : w2.cell? ⟨w.heap.size, 1, none⟩ = some (.int .i64 n1) := (H1.out.1).cell 1
 have q0_2 : w2.cell? ⟨w.heap.size, 2, none⟩ = some (.int .i64 (s1 : Int)) := (H1.out.1).cell 2
 have q0_3 : w2.cell? ⟨w.heap.size, 3, none⟩ = some (.string ⟨#[]⟩) := (H1.out.1).cell 3
 have q0_4 : w2.cell? ⟨w.heap.size, 4, none⟩ = some (.slice na1 0 nc1) := (H1.out.1).cell 4
 have q0_5 : w2.cell? ⟨w.heap.size, 5, none⟩ = some (.slice ka1 0 kc1) := (H1.out.1).cell 5
 go_wp2_with fail
 clear q0_0 q0_1 q0_2 q0_3 q0_4 q0_5
 refine (K2.out _).mono ?_
 rintro e w3 ⟨rfl, g1⟩
 have H2 : Hid (Blk w3 (w.heap.size) 41 [.int .i64 k1, .int .i64 n1, .int .i64 (s1 : Int), .string ⟨#[]⟩, .slice na1 0 nc1, .slice ka1 0 kc1] /\ Grow w w3) := ⟨(H1.out.1).grow g1, Grow.trans (H1.out.2) g1⟩
 clear H1 g1
 go_wp2_with fail
 refine (K3.out _).mono ?_
 rintro e w4 ⟨rfl, g2⟩
 have H3 : Hid (Blk w4 (w.heap.size) 41 [.int .i64 k1, .int .i64 n1, .int .i64 (s1 : Int), .string ⟨#[]⟩, .slice na1 0 nc1, .slice ka1 0 kc1] /\ Grow w w4) := ⟨(H2.out.1).grow g2, Grow.trans (H2.out.2) g2⟩
 clear H2 g2
 have q0_0 : w4.cell? ⟨w.heap.size, 0, none⟩ = some (.int .i64 k1) := (H3.out.1).cell 0
 have q0_1 : w4.cell? ⟨w.heap.size, 1, none⟩ = some (.int .i64 n1) := (H3.out.1).cell 1
 have q0_2 : w4.cell? ⟨w.heap.size, 2, none⟩ = some (.int .i64 (s1 : Int)) := (H3.out.1).cell 2
 have q0_3 : w4.cell? ⟨w.heap.size, 3, none⟩ = some (.string ⟨#[]⟩) := (H3.out.1).cell 3
 have q0_4 : w4.cell? ⟨w.heap.size, 4, none⟩ = some (.slice na1 0 nc1) := (H3.out.1).cell 4
 have q0_5 : w4.cell? ⟨w.heap.size, 5, none⟩ = some (.slice ka1 0 kc1) := (H3.out.1).cell 5
 go_wp2
 clear q0_0 q0_1 q0_2 q0_3 q0_4 q0_5
 go_loopw [4] (fun q wr => ∃ S : ByteArray, S.size <= 40 /\ q = .string S /\ Hid ((∃ j, S = zeros j ++ D /\ (j = 0 ∨ S.size <= s1 + 1)) /\ Blk wr w.heap.size 41 [.int .i64 k1, .int .i64 n1, .int .i64 (s1 : Int), .string ⟨#[]⟩, .slice na1 0 nc1, .slice ka1 0 kc1] /\ Grow w wr)) (fun q _ => s1 + 1 - strSize q)
 case atStart => exact ⟨D, by omega, rfl, ⟨0, (zeros_none D).symm, .inl rfl⟩, H3.out.1, H3.out.2⟩
 case round =>
  obtain ⟨S, hS, rfl, HI⟩ := hrel
  clear H3
  have y1 : wr.cell? ⟨w.heap.size, 1, none⟩ = some (.int .i64 n1) := HI.out.2.1.cell 1
  have y2 : wr.cell? ⟨w.heap.size, 2, none⟩ = some (.int .i64 (s1 : Int)) := HI.out.2.1.cell 2
  by_cases hle : S.size <= s1
  . have hsz : ¬ 9223372036854775807 < 1 + S.size := by omega
    go_wp2
    go_roundw
    case rel =>
     obtain ⟨⟨j, e, hj⟩, hb, hg⟩ := HI.out
     have e1 : ((⟨#[48]⟩ : ByteArray) ++ S).size = 1 + S.size := by rw [ByteArray.size_append]; rfl
     exact ⟨_, by omega, rfl, ⟨j + 1, by rw [e, zeros_more], .inr (by omega)⟩, hb, hg⟩
    case measure =>
     have e1 : ((⟨#[48]⟩ : ByteArray) ++ S).size = 1 + S.size := by rw [ByteArray.size_append]; rfl
     simp only [strSize]
     omega
  . obtain ⟨p, hp⟩ : ∃ p, S.size - s1 = p := ⟨_, rfl⟩
    have e2 : (S.size : Int) - (s1 : Int) = (p : Int) := by omega
    have e4 : p <= S.size := by omega
    have HT : Hid (dotN D s1 = S.extract 0 p ++ ⟨#[46]⟩ ++ S.extract p S.size /\ (S.extract 0 p ++ ⟨#[46]⟩ ++ S.extract p S.size).size = S.size + 1) := by
     obtain ⟨⟨j, e, hj⟩, hb, hg⟩ := HI.out
     have q : S.size = j + D.size := by rw [e, ByteArray.size_append, zeros_size]
     refine ⟨?_, dotAt_size S p e4⟩
     unfold dotN
     by_cases hd : D.size <= s1
     . rw [if_pos hd, show s1 + 1 - D.size = j by omega, <- e, show 1 = p by omega]
       rfl
     . have j0 : j = 0 := by omega
       rw [if_neg hd]
       subst j0
       rw [zeros_none] at e
       subst e
       rw [hp]
       rfl
    have hsz : ¬ 9223372036854775807 < 1 + (S.extract 0 p ++ ⟨#[46]⟩ ++ S.extract p S.size).size := by rw [HT.out.2]; omega
    clear hp
    go_wp2
    go_quiet (fail)
    go_wp2
    go_ret2
    exact ⟨by rw [HT.out.1]; rfl, HI.out.2.2.trans (grow_dq _ _)⟩
end Go.Proofs.YtpfiejmhnkcjbaaGreatDoor.D6
namespace Go.Proofs.YtpfiejmhnkcjbaaGreatDoor.D6
open Go.RowKit
set_option linter.unusedVariables false
theorem rText_num (k n : Int) (s : Nat) (hN : isNum k n s ⟨#[]⟩ 0 0 = true) (f : -9223372036854775808 <= n /\ n < 9223372036854775808) (na : Option Addr) (nc : Nat) (ka : Option Addr) (kc : Nat) (w : World) :
 Calls Tryz.prog 16 #[.agg #[.int .i64 k, .int .i64 n, .int .i64 (s : Int), .string ⟨#[]⟩, .slice na 0 nc, .slice ka 0 kc]] w fun e w' => e = .returned (.tuple #[.string (txt n s ⟨(Lib.decDigits n.natAbs).toArray⟩), .int .i64 0]) /\ Grow w w' := by
 have q := dig_size n.natAbs (by omega)
 have K1 := fun W => isR_yes k n s na nc ka kc hN W
 have K2 := fun W => absG n f.1 f.2 W
 have K3 := fun W => decR n.natAbs (by omega) W
 have hs : s <= 18 := by
  obtain ⟨_, _, _, h⟩ := isNum_yes hN
  omega
 generalize (⟨(Lib.decDigits n.natAbs).toArray⟩ : ByteArray) = D at *
 unfold txt
 by_cases hn : n < 0
 . rw [if_pos hn]
   by_cases s0 : s = 0
   . subst s0
     exact rText_i_n k n na nc ka kc n.natAbs D q.2 hn K1 K2 K3 w
   . rw [if_neg s0]
     exact rText_d_n k n s na nc ka kc (by omega) hs n.natAbs D q.1 q.2 hn K1 K2 K3 w
 . rw [if_neg hn]
   by_cases s0 : s = 0
   . subst s0
     exact rText_i_p k n na nc ka kc n.natAbs D q.2 (by omega) K1 K2 K3 w
   . rw [if_neg s0]
     exact rText_d_p k n s na nc ka kc (by omega) hs n.natAbs D q.1 q.2 (by omega) K1 K2 K3 w
def txE (v : Vv) : Int := if v.num then 0 else 11
end Go.Proofs.YtpfiejmhnkcjbaaGreatDoor.D6
namespace Go.Proofs.YtpfiejmhnkcjbaaGreatDoor.D6
open Go.RowKit
set_option linter.unusedVariables false
theorem fold_shift : ∀ (b : List UInt8) (n : Nat), b.foldl (fun n b => n * 10 + (b.toNat - 48)) n = n * 10 ^ b.length + b.foldl (fun n b => n * 10 + (b.toNat - 48)) 0
 | [], n => by simp
 | x :: r, n => by
   rw [List.foldl_cons, List.foldl_cons, fold_shift r (n * 10 + (x.toNat - 48)), fold_shift r (0 * 10 + (x.toNat - 48)), List.length_cons, Nat.pow_succ]
   generalize List.foldl (fun n b => n * 10 + (b.toNat - 48)) 0 r = F
   generalize x.toNat - 48 = d
   generalize 10 ^ r.length = T
   grind
theorem numL_app (a b : List UInt8) : numL (a ++ b) = numL a * 10 ^ b.length + numL b := by
 unfold numL
 rw [List.foldl_append, fold_shift b]
theorem u8_of (m : Nat) (h : m < 256) : (UInt8.ofNat m).toNat = m := by
 rw [UInt8.toNat_ofNat']
 omega
theorem dec_num : ∀ (k u : Nat), u <= k -> numL (Lib.decDigits u) = u /\ (Lib.decDigits u).all dig10 = true /\ (Lib.decDigits u ≠ [] /\ (0 < u -> (Lib.decDigits u).head? ≠ some 48)) := by
 intro k
 induction k with
 | zero =>
   intro u hu
   obtain rfl : u = 0 := by omega
   rw [Lib.decDigits_one (by omega)]
   exact ⟨rfl, rfl, by simp, fun h => by omega⟩
 | succ k ih =>
   intro u hu
   by_cases h : u < 10
   . rw [Lib.decDigits_one h]
     have e := u8_of (48 + u) (by omega)
     refine ⟨?_, ?_, by simp, fun h0 => ?_⟩
     . show 0 * 10 + ((UInt8.ofNat (48 + u)).toNat - 48) = u
       rw [e]; omega
     . simp only [List.all_cons, List.all_nil, Bool.and_true, dig10, e, decide_eq_true_eq]
       omega
     . intro hh
       injection hh with hh
       have := congrArg UInt8.toNat hh
       rw [e] at this
       have h48 : (48 : UInt8).toNat = 48 := rfl
       omega
   . rw [dec_step (by omega)]
     obtain ⟨i1, i2, i3, i4⟩ := ih (u / 10) (by omega)
     have e := u8_of (48 + u % 10) (by omega)
     refine ⟨?_, ?_, by simp, fun _ => ?_⟩
     . rw [numL_snoc, i1, e]; omega
     . rw [List.all_append, i2]
       simp only [List.all_cons, List.all_nil, Bool.and_true, Bool.true_and, dig10, e, decide_eq_true_eq]
       omega
     . have i5 := i4 (by omega)
       cases hh : Lib.decDigits (u / 10) with
       | nil => exact absurd hh i3
       | cons a r =>
         rw [hh] at i5
         exact i5
end Go.Proofs.YtpfiejmhnkcjbaaGreatDoor.D6
namespace Go.Proofs.YtpfiejmhnkcjbaaGreatDoor.D6
open Go.RowKit
set_option linter.unusedVariables false
theorem dec_low : ∀ (k u : Nat), u <= k -> 0 < u -> 10 ^ ((Lib.decDigits u).length - 1) <= u := by
 intro k
 induction k with
 | zero => intro u h1 h2; omega
 | succ k ih =>
   intro u hu h0
   by_cases h : u < 10
   . rw [Lib.decDigits_one h]
     show 10 ^ 0 <= u
     omega
   . rw [dec_step (by omega), List.length_append, List.length_singleton, Nat.add_sub_cancel]
     have h1 := ih (u / 10) (by omega) (by omega)
     have h2 := (dec_num k (u / 10) (by omega)).2.2.1
     have h3 : 0 < (Lib.decDigits (u / 10)).length := List.length_pos_iff.2 h2
     obtain ⟨m, hm⟩ : ∃ m, (Lib.decDigits (u / 10)).length = m + 1 := ⟨_, (Nat.succ_pred_eq_of_pos h3).symm⟩
     rw [hm, Nat.add_sub_cancel] at h1
     rw [hm, Nat.pow_succ]
     omega
theorem dec_19 (u : Nat) (hu : u <= 9223372036854775808) : (Lib.decDigits u).length <= 19 := by
 by_cases h0 : u = 0
 . subst h0
   rw [Lib.decDigits_one (by omega)]
   decide
 . have h1 := dec_low u u (Nat.le_refl _) (by omega)
   by_cases h : (Lib.decDigits u).length <= 19
   . exact h
   . have h2 := pow_le (k := 19) (n := (Lib.decDigits u).length - 1) (by omega)
     have h3 : (10 : Nat) ^ 19 = 10000000000000000000 := by decide
     omega
theorem numL_zeros (j : Nat) : numL (List.replicate j 48) = 0 := by
 induction j with
 | zero => rfl
 | succ j ih =>
   rw [List.replicate_succ', numL_snoc, ih]
   rfl
theorem zeros_dig (j : Nat) : (List.replicate j (48 : UInt8)).all dig10 = true := by
 rw [List.all_eq_true]
 intro x hx
 rw [(List.mem_replicate.1 hx).2]
 rfl
theorem dot_parts (u s : Nat) (s0 : 0 < s) (hu : u <= 9223372036854775808) (D : ByteArray) (hD : D.data.toList = Lib.decDigits u) :
 ∃ a b : List UInt8, (dotN D s).data.toList = a ++ 46 :: b /\ a.all dig10 = true /\ b.all dig10 = true /\ b.length = s /\ numL a * 10 ^ s + numL b = u /\ a ≠ [] /\ (¬ a.head? = some 48 ∨ a.length = 1) /\ a.length <= 19 := by
 obtain ⟨d1, d2, d3, d4⟩ := dec_num u u (Nat.le_refl _)
 have d5 := dec_19 u hu
 have d6 : u = 0 -> (Lib.decDigits u).length = 1 := fun e => by rw [e, Lib.decDigits_one (by omega)]; rfl
 have hl : D.size = (Lib.decDigits u).length := by rw [size_list, hD]
 generalize Lib.decDigits u = l at *
 unfold dotN dotAt
 by_cases h : D.size <= s
 . rw [if_pos h]
   refine ⟨[48], List.replicate (s - l.length) 48 ++ l, ?_, rfl, ?_, ?_, ?_, by simp, .inr rfl, by decide⟩
   . have e : (zeros (s + 1 - D.size) ++ D).data.toList = 48 :: (List.replicate (s - l.length) 48 ++ l) := by
      rw [app_list, hD]
      show List.replicate (s + 1 - D.size) 48 ++ l = _
      rw [show s + 1 - D.size = (s - l.length) + 1 by omega, List.replicate_succ]
      rfl
     generalize zeros (s + 1 - D.size) ++ D = Y at *
     rw [app_list, app_list]
     have e2 : Y.size = (s - l.length + l.length) + 1 := by rw [size_list, e]; simp
     simp [e, e2]
     exact List.take_of_length_le (by simp)
   . rw [List.all_append, zeros_dig, d2]; rfl
   . simp; omega
   . rw [numL_app, numL_zeros, d1]
     show numL [48] * _ + _ = u
     have : numL [48] = 0 := rfl
     rw [this]; omega
 . rw [if_neg h]
   have hs : s < l.length := by omega
   refine ⟨l.take (l.length - s), l.drop (l.length - s), ?_, ?_, ?_, ?_, ?_, ?_, ?_, ?_⟩
   . rw [app_list, app_list]
     simp [hD, hl]
     exact List.take_of_length_le (by simp)
   . exact List.all_eq_true.2 fun x hx => List.all_eq_true.1 d2 x (List.mem_of_mem_take hx)
   . exact List.all_eq_true.2 fun x hx => List.all_eq_true.1 d2 x (List.mem_of_mem_drop hx)
   . simp; omega
   . have := numL_app (l.take (l.length - s)) (l.drop (l.length - s))
     rw [List.take_append_drop, d1, show (l.drop (l.length - s)).length = s by simp; omega] at this
     exact this.symm
   . intro e
     have := congrArg List.length e
     simp at this
     omega
   . left
     have h0 : 0 < u := by
      by_cases h0 : u = 0
      . have := d6 h0
        omega
      . omega
     have := d4 h0
     cases hh : l with
     | nil => exact absurd hh d3
     | cons x r =>
       rw [hh] at this hs
       rw [show (x :: r).length - s = ((x :: r).length - s - 1) + 1 by omega, List.take_succ_cons]
       exact this
   . simp; omega
end Go.Proofs.YtpfiejmhnkcjbaaGreatDoor.D6
namespace Go.Proofs.YtpfiejmhnkcjbaaGreatDoor.D6
open Go.RowKit
set_option linter.unusedVariables false
end Go.Proofs.YtpfiejmhnkcjbaaGreatDoor.D6
namespace Go.Proofs.YtpfiejmhnkcjbaaGreatDoor.D6
open Go.RowKit
set_option linter.unusedVariables false
theorem body_head (n : Int) (s : Nat) (hN : Nu n s) (D : ByteArray) (hD : D.data.toList = Lib.decDigits n.natAbs) : ∃ x r, (if s = 0 then D else dotN D s).data.toList = x :: r /\ dig10 x = true := by
 have hu : n.natAbs <= 9223372036854775808 := by have := hN.n0; have := hN.n1; omega
 by_cases s0 : s = 0
 . rw [if_pos s0, hD]
   obtain ⟨d1, d2, d3, d4⟩ := dec_num _ n.natAbs (Nat.le_refl _)
   cases h : Lib.decDigits n.natAbs with
   | nil => exact absurd h d3
   | cons x r =>
     rw [h] at d2
     exact ⟨x, r, rfl, List.all_eq_true.1 d2 x (List.mem_cons_self ..)⟩
 . rw [if_neg s0]
   obtain ⟨a, c, e1, e2, e3, e4, e5, e6, e7, e8⟩ := dot_parts n.natAbs s (by omega) hu D hD
   cases a with
   | nil => exact absurd rfl e6
   | cons x r => exact ⟨x, r ++ 46 :: c, e1, List.all_eq_true.1 e2 x (List.mem_cons_self ..)⟩
end Go.Proofs.YtpfiejmhnkcjbaaGreatDoor.D6
