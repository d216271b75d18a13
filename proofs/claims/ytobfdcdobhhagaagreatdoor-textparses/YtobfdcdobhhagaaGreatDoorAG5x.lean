/-
   ·  ·  ·  ·  ·  · 
-/
import Derived.Test.YtobfdcdobhhagaaGreatDoorAG4x
import Derived.Shelf.LaysM
import Derived.Shelf.Strconv.Itoa1
import Derived.Shelf.Strconv.Itoa2
import Derived.Shelf.Strings.Cut
import Derived.Shelf.Strings.Shaped
import Derived.Shelf.Strings.Search2
import Derived.Shelf.Small.Wraps
import Derived.Shelf.Strings.SlTrimAscii
import Derived.Test.YtobfdcdobhhagaaGreatDoorProg
namespace Go.Proofs.YtobfdcdobhhagaaGreatDoor.D6
set_option maxHeartbeats 2000000
set_option maxRecDepth 8000
open Go.RowKit
set_option linter.unusedVariables false
def isNum (k n s : Int) (t : ByteArray) (nl kl : Nat) : Bool :=
 (decide (k = 3) && decide (s = 0) || decide (k = 4) && decide (1 <= s) && decide (s <= 18) && !decide (n.tmod 10 = 0)) && t.toList.isEmpty && decide (nl = 0) && decide (kl = 0)
theorem bytes_nil {t : ByteArray} (h : t.toList.isEmpty = true) : t = ⟨#[]⟩ := by
 rw [ByteArray.toList_eq] at h
 cases t with
 | mk d =>
   have : d.toList = [] := by simpa using h
   simp only [ByteArray.mk.injEq]
   exact Array.toList_inj.1 (by simpa using this)
theorem isNum_yes {k n s : Int} {t : ByteArray} {nl kl : Nat} (h : isNum k n s t nl kl = true) : t = ⟨#[]⟩ /\ nl = 0 /\ kl = 0 /\ ((k = 3 /\ s = 0) ∨ (k = 4 /\ 1 <= s /\ s <= 18 /\ n.tmod 10 ≠ 0)) := by
 simp only [isNum, Bool.and_eq_true, Bool.or_eq_true, decide_eq_true_eq, Bool.not_eq_true', decide_eq_false_iff_not] at h
 obtain ⟨⟨⟨h1, h2⟩, h3⟩, h4⟩ := h
 refine ⟨bytes_nil h2, h3, h4, ?_⟩
 rcases h1 with h1 | ⟨⟨⟨a, b⟩, c⟩, d⟩
 . exact .inl h1
 . exact .inr ⟨a, b, c, d⟩
def only (n s : Int) (t : ByteArray) (nl kl : Nat) (F : Int) : Bool :=
 (F = 1 || F = 3 || decide (n = 0)) && (F = 3 || decide (s = 0)) && t.toList.isEmpty && decide (nl = 0) && decide (kl = 0)
theorem only_any (k n s : Int) (t : ByteArray) (na : Option Addr) (nl nc : Nat) (ka : Option Addr) (kl kc : Nat) (F : Int) (hF : F = 1 ∨ F = 3) (w : World) :
 Calls Tryz.prog 123 #[.agg #[.int .i64 k, .int .i64 n, .int .i64 s, .string t, .slice na nl nc, .slice ka kl kc], .int .u64 F] w fun e w' => e = .returned (.bool (only n s t nl kl F)) /\ Grow w w' := by
 have HF : Hid _ := hF
 clear hF
 go_enter Tryz.func123, Tryz.ntmps123
 go_wp2
 all_goals
  go_ret
  refine ⟨?_, (Grow.refl _).alloc _⟩
  unfold only
  cases hte : t.toList.isEmpty <;> rcases HF.out with rfl | rfl <;> simp_all <;> decide
theorem num_of_only3 (n s : Int) (t : ByteArray) (nl kl : Nat) : isNum 3 n s t nl kl = only n s t nl kl 1 := by
 simp [isNum, only]
theorem num_of_only4 (n s : Int) (t : ByteArray) (nl kl : Nat) : isNum 4 n s t nl kl = (only n s t nl kl 3 && decide (1 <= s) && decide (s <= 18) && !decide (n.tmod 10 = 0)) := by
 simp only [isNum, only]
 cases t.toList.isEmpty <;> cases decide (nl = 0) <;> cases decide (kl = 0) <;> simp
theorem formed3 (n s : Int) (t : ByteArray) (na : Option Addr) (nl nc : Nat) (ka : Option Addr) (kl kc : Nat) (w : World) :
 Calls Tryz.prog 79 #[.agg #[.int .i64 3, .int .i64 n, .int .i64 s, .string t, .slice na nl nc, .slice ka kl kc]] w fun e w' => e = .returned (.bool (isNum 3 n s t nl kl)) /\ Grow w w' := by
 have K : Hid (∀ W, Calls Tryz.prog 123 #[.agg #[.int .i64 3, .int .i64 n, .int .i64 s, .string t, .slice na nl nc, .slice ka kl kc], .int .u64 1] W fun e w' => e = .returned (.bool (isNum 3 n s t nl kl)) /\ Grow W w') := fun W => by
  rw [num_of_only3]
  exact only_any 3 n s t na nl nc ka kl kc 1 (.inl rfl) W
 generalize isNum 3 n s t nl kl = R at *
 go_enter Tryz.func79, Tryz.ntmps79
 go_wp2_with fail
 refine (K.out _).mono ?_
 rintro e w2 ⟨rfl, g2⟩
 have G : Hid (Grow w w2) := Grow.trans ((Grow.refl _).alloc _) g2
 clear g2 K
 go_wp2
 go_ret
 exact ⟨rfl, G.out⟩
theorem formed4 (n s : Int) (t : ByteArray) (na : Option Addr) (nl nc : Nat) (ka : Option Addr) (kl kc : Nat) (w : World) :
 Calls Tryz.prog 79 #[.agg #[.int .i64 4, .int .i64 n, .int .i64 s, .string t, .slice na nl nc, .slice ka kl kc]] w fun e w' => e = .returned (.bool (isNum 4 n s t nl kl)) /\ Grow w w' := by
 obtain ⟨O, hO⟩ : ∃ O, only n s t nl kl 3 = O := ⟨_, rfl⟩
 have K : Hid (∀ W, Calls Tryz.prog 123 #[.agg #[.int .i64 4, .int .i64 n, .int .i64 s, .string t, .slice na nl nc, .slice ka kl kc], .int .u64 3] W fun e w' => e = .returned (.bool O) /\ Grow W w') := fun W => by
  rw [<- hO]
  exact only_any 4 n s t na nl nc ka kl kc 3 (.inr rfl) W
 have HR : Hid (isNum 4 n s t nl kl = (O && decide (1 <= s) && decide (s <= 18) && !decide (n.tmod 10 = 0))) := by
  show _ = _
  rw [num_of_only4, hO]
 clear hO
 generalize isNum 4 n s t nl kl = R at *
 go_enter Tryz.func79, Tryz.ntmps79
 go_wp2_with fail
 refine (K.out _).mono ?_
 rintro e w2 ⟨rfl, g2⟩
 have bB : Blk w2 w.heap.size 38 [.int .i64 4, .int .i64 n, .int .i64 s, .string t, .slice na nl nc, .slice ka kl kc] := Blk.grow (blk_at rfl) g2
 have c1 : w2.cell? ⟨w.heap.size, 1, none⟩ = some (.int .i64 n) := bB.cell 1
 have c2 : w2.cell? ⟨w.heap.size, 2, none⟩ = some (.int .i64 s) := bB.cell 2
 have G : Hid (Grow w w2) := Grow.trans ((Grow.refl _).alloc _) g2
 clear g2 K bB
 cases O
 . go_wp2
   go_ret
   exact ⟨by rw [HR.out]; rfl, G.out⟩
 . go_wp2
   all_goals
    go_ret
    refine ⟨?_, G.out⟩
    rw [HR.out]
    by_cases e0 : n.tmod 10 = 0 <;> by_cases e1 : 1 <= s <;> by_cases e2 : s <= 18 <;> simp [e0, e1, e2] <;> omega
def chkN (b : Bool) : Int := if b then 0 else 3
theorem checkAt_no (k n s : Int) (t : ByteArray) (na : Option Addr) (nl nc : Nat) (ka : Option Addr) (kl kc : Nat) (K : Hid (∀ W, Calls Tryz.prog 79 #[.agg #[.int .i64 k, .int .i64 n, .int .i64 s, .string t, .slice na nl nc, .slice ka kl kc]] W fun e w' => e = .returned (.bool false) /\ Grow W w')) (w : World) :
 Calls Tryz.prog 37 #[.agg #[.int .i64 k, .int .i64 n, .int .i64 s, .string t, .slice na nl nc, .slice ka kl kc], .int .i64 1] w fun e w' => e = .returned (.int .i64 3) /\ Grow w w' := by
 go_enter Tryz.func37, Tryz.ntmps37
 go_wp2_with fail
 refine (K.out _).mono ?_
 rintro e w2 ⟨rfl, g2⟩
 have G : Hid (Grow w w2) := Grow.trans ((Grow.refl _).alloc _) g2
 clear g2 K
 go_wp2
 go_ret
 exact ⟨rfl, G.out⟩
theorem checkAt_yes (k n s : Int) (na : Option Addr) (nc : Nat) (ka : Option Addr) (kc : Nat) (hk : ¬ k = 9) (K : Hid (∀ W, Calls Tryz.prog 79 #[.agg #[.int .i64 k, .int .i64 n, .int .i64 s, .string ⟨#[]⟩, .slice na 0 nc, .slice ka 0 kc]] W fun e w' => e = .returned (.bool true) /\ Grow W w')) (w : World) :
 Calls Tryz.prog 37 #[.agg #[.int .i64 k, .int .i64 n, .int .i64 s, .string ⟨#[]⟩, .slice na 0 nc, .slice ka 0 kc], .int .i64 1] w fun e w' => e = .returned (.int .i64 0) /\ Grow w w' := by
 go_enter Tryz.func37, Tryz.ntmps37
 go_wp2_with fail
 refine (K.out _).mono ?_
 rintro e w2 ⟨rfl, g2⟩
 have bB : Blk w2 w.heap.size 38 [.int .i64 k, .int .i64 n, .int .i64 s, .string ⟨#[]⟩, .slice na 0 nc, .slice ka 0 kc] := Blk.grow (blk_at rfl) g2
 have c0 : w2.cell? ⟨w.heap.size, 0, none⟩ = some (.int .i64 k) := bB.cell 0
 have c3 : w2.cell? ⟨w.heap.size, 3, none⟩ = some (.string ⟨#[]⟩) := bB.cell 3
 have c5 : w2.cell? ⟨w.heap.size, 5, none⟩ = some (.slice ka 0 kc) := bB.cell 5
 have G : Hid (Grow w w2) := Grow.trans ((Grow.refl _).alloc _) g2
 clear g2 K bB
 go_wp2
 go_loopw [34] (fun i wr => i = .int .i64 0 /\ wr = w2) (fun _ _ => 0)
 case atStart => exact ⟨rfl, rfl⟩
 case round =>
  obtain ⟨rfl, rfl⟩ := hrel
  go_wp2
  go_ret
  exact ⟨rfl, G.out⟩
end Go.Proofs.YtobfdcdobhhagaaGreatDoor.D6
namespace Go.Proofs.YtobfdcdobhhagaaGreatDoor.D6
set_option maxRecDepth 8000
open Go.RowKit
set_option linter.unusedVariables false
theorem vCheck_num (k n s : Int) (hk : k = 3 ∨ k = 4) (t : ByteArray) (na : Option Addr) (nl nc : Nat) (ka : Option Addr) (kl kc : Nat) (w : World) :
 Calls Tryz.prog 25 #[.agg #[.int .i64 k, .int .i64 n, .int .i64 s, .string t, .slice na nl nc, .slice ka kl kc]] w fun e w' => e = .returned (.int .i64 (chkN (isNum k n s t nl kl))) /\ Grow w w' := by
 have K : Hid (∀ W, Calls Tryz.prog 37 #[.agg #[.int .i64 k, .int .i64 n, .int .i64 s, .string t, .slice na nl nc, .slice ka kl kc], .int .i64 1] W fun e w' => e = .returned (.int .i64 (chkN (isNum k n s t nl kl))) /\ Grow W w') := fun W => by
  have F : ∀ W, Calls Tryz.prog 79 #[.agg #[.int .i64 k, .int .i64 n, .int .i64 s, .string t, .slice na nl nc, .slice ka kl kc]] W fun e w' => e = .returned (.bool (isNum k n s t nl kl)) /\ Grow W w' := fun W => by
   rcases hk with rfl | rfl
   . exact formed3 n s t na nl nc ka kl kc W
   . exact formed4 n s t na nl nc ka kl kc W
  cases hN : isNum k n s t nl kl with
  | false =>
    rw [hN] at F
    exact checkAt_no k n s t na nl nc ka kl kc F W
  | true =>
    obtain ⟨rfl, rfl, rfl, _⟩ := isNum_yes hN
    rw [hN] at F
    exact checkAt_yes k n s na nc ka kc (by rcases hk with rfl | rfl <;> decide) F W
 generalize chkN (isNum k n s t nl kl) = E at *
 clear hk
 go_enter Tryz.func25, Tryz.ntmps25
 go_wp2_with fail
 refine (K.out _).mono ?_
 rintro e w2 ⟨rfl, g2⟩
 have G : Hid (Grow w w2) := Grow.trans ((Grow.refl _).alloc _) g2
 clear g2 K
 go_wp2
 go_ret
 exact ⟨rfl, G.out⟩
theorem isNum_kind {k n s : Int} {t : ByteArray} {nl kl : Nat} (h3 : ¬ k = 3) (h4 : ¬ k = 4) : isNum k n s t nl kl = false := by
 simp [isNum, h3, h4]
theorem isNumber_any (k n s : Int) (t : ByteArray) (na : Option Addr) (nl nc : Nat) (ka : Option Addr) (kl kc : Nat) (w : World) :
 Calls Tryz.prog 101 #[.agg #[.int .i64 k, .int .i64 n, .int .i64 s, .string t, .slice na nl nc, .slice ka kl kc]] w fun e w' => e = .returned (.bool (isNum k n s t nl kl)) /\ Grow w w' := by
 by_cases hk : k = 3 ∨ k = 4
 . have K : Hid (∀ W, Calls Tryz.prog 25 #[.agg #[.int .i64 k, .int .i64 n, .int .i64 s, .string t, .slice na nl nc, .slice ka kl kc]] W fun e w' => e = .returned (.int .i64 (chkN (isNum k n s t nl kl))) /\ Grow W w') := fun W => vCheck_num k n s hk t na nl nc ka kl kc W
   have HE : Hid ((chkN (isNum k n s t nl kl) == 0) = isNum k n s t nl kl) := by
    show _ = _
    cases isNum k n s t nl kl <;> rfl
   generalize chkN (isNum k n s t nl kl) = E at *
   generalize isNum k n s t nl kl = R at *
   rcases hk with rfl | rfl
   all_goals
    go_enter Tryz.func101, Tryz.ntmps101
    go_wp2_with fail
    refine (K.out _).mono ?_
    rintro e w2 ⟨rfl, g2⟩
    have G : Hid (Grow w w2) := Grow.trans ((Grow.refl _).alloc _) g2
    clear g2 K
    have he := HE.out
    go_wp2
    go_ret
    exact ⟨rfl, G.out⟩
 . have h3 : ¬ k = 3 := fun e => hk (.inl e)
   have h4 : ¬ k = 4 := fun e => hk (.inr e)
   rw [isNum_kind h3 h4]
   clear hk
   go_enter Tryz.func101, Tryz.ntmps101
   go_wp2
   go_ret
   exact ⟨rfl, (Grow.refl _).alloc _⟩
end Go.Proofs.YtobfdcdobhhagaaGreatDoor.D6
namespace Go.Proofs.YtobfdcdobhhagaaGreatDoor.D6
open Go.RowKit
set_option linter.unusedVariables false
end Go.Proofs.YtobfdcdobhhagaaGreatDoor.D6
namespace Go.Proofs.YtobfdcdobhhagaaGreatDoor.D6
open Go.RowKit
set_option linter.unusedVariables false
theorem sgn_abs (n : Int) : sgn (decide (n < 0)) n.natAbs = n := by
 unfold sgn
 by_cases h : n < 0
 . simp [h]; omega
 . simp [h]; omega
end Go.Proofs.YtobfdcdobhhagaaGreatDoor.D6
namespace Go.Proofs.YtobfdcdobhhagaaGreatDoor.D6
set_option maxRecDepth 20000
open Go.RowKit
set_option linter.unusedVariables false
theorem hp_of (s : ByteArray) (b : Bool) (hs : 1 <= s.size) (hb : ((s.extract 0 1).toList == [48]) = b) (w : World) : Calls Tryz.prog 170 #[.string s, .string ⟨#[48]⟩] w fun e w' => e = .returned (.bool b) /\ w' = w := by
 go_enter Tryz.func170, Tryz.ntmps170
 go_wp2
 go_ret
 exact ⟨rfl, rfl⟩
theorem hp_no (s : ByteArray) (h : (decide (1 <= s.size) && !((s.extract 0 1).toList == [48])) = true) (w : World) : Calls Tryz.prog 170 #[.string s, .string ⟨#[48]⟩] w fun e w' => e = .returned (.bool false) /\ w' = w := by
 simp only [Bool.and_eq_true, decide_eq_true_eq, Bool.not_eq_true'] at h
 exact hp_of s false h.1 h.2 w
theorem hp_yes (s : ByteArray) (h : (decide (1 <= s.size) && ((s.extract 0 1).toList == [48])) = true) (w : World) : Calls Tryz.prog 170 #[.string s, .string ⟨#[48]⟩] w fun e w' => e = .returned (.bool true) /\ w' = w := by
 simp only [Bool.and_eq_true, decide_eq_true_eq] at h
 exact hp_of s true h.1 h.2 w
theorem mulB (x y : Nat) (hx : x < 18446744073709551616) (hy : y < 18446744073709551616) (h l : Nat) (hw : Wd h l (x * y)) (w : World) :
 Calls Tryz.prog 169 #[.int .u64 (x : Int), .int .u64 (y : Int)] w fun e w' => e = .returned (.tuple #[.int .u64 (h : Int), .int .u64 (l : Int)]) /\ w' = w := by
 have k := fun W => mul60 x y hx hy W
 rw [show x * y / 18446744073709551616 = h by rw [<- hw.eq]; have := hw.l1; omega, show x * y % 18446744073709551616 = l by rw [<- hw.eq]; have := hw.l1; omega] at k
 have HK : Hid (∀ W, Calls Tryz.prog 152 #[.int .u64 (x : Int), .int .u64 (y : Int)] W fun e w' => e = .returned (.tuple #[.int .u64 (h : Int), .int .u64 (l : Int)]) /\ w' = W) := k
 clear k hw hx hy
 go_enter Tryz.func169, Tryz.ntmps169
 go_wp2_with (go_at_call 152; refine (HK.out _).mono ?_; rintro e w' ⟨rfl, rfl⟩)
 go_ret2
 exact ⟨rfl, rfl⟩
def zeros (n : Nat) : ByteArray := ⟨(List.replicate n 48).toArray⟩
theorem ret_str {a b : ByteArray} (h : a = b) : Ending.returned (.string a) = .returned (.string b) := by rw [h]
theorem zeros_ext (c n : Nat) (h : c <= n) : (zeros n).extract 0 c = zeros c := by
 apply ByteArray.ext
 simp only [zeros, ByteArray.data_extract]
 apply Array.toList_inj.1
 simp [Nat.min_eq_left h]
theorem rep_any (c : Nat) (h0 : 0 < c) (h64 : c <= 64) (w : World) : Calls Tryz.prog 138 #[.string ⟨#[48]⟩, .int .i64 (c : Int)] w fun e w' => e = .returned (.string (zeros c)) /\ Grow w w' := by
 by_cases h1 : c = 1
 . subst h1
   go_enter Tryz.func138, Tryz.ntmps138
   go_wp2
   go_ret
   exact ⟨rfl, Grow.refl _⟩
 have K : Hid (∀ W, Calls Tryz.prog 169 #[.int .u64 1, .int .u64 (c : Int)] W fun e w' => e = .returned (.tuple #[.int .u64 0, .int .u64 (c : Int)]) /\ w' = W) := fun W => mulB 1 c (by omega) (by omega) 0 c ⟨by omega, by omega, by omega⟩ W
 have n0 : ¬ c = 0 := by omega
 go_enter Tryz.func138, Tryz.ntmps138
 go_wp2_with (first
  | (go_at_call 169; refine (K.out _).mono ?_; rintro e w' ⟨rfl, rfl⟩)
  | (go_at_call 170; first | (refine (hp_no _ ?hh _).mono ?_; (case hh => decide +kernel); rintro e w' ⟨rfl, rfl⟩) | (refine (hp_yes _ ?hh _).mono ?_; (case hh => decide +kernel); rintro e w' ⟨rfl, rfl⟩)))
 go_ret
 exact ⟨ret_str (zeros_ext c 64 h64), Grow.refl _⟩
def dotAt (t : ByteArray) (p : Nat) : ByteArray := t.extract 0 p ++ ⟨#[46]⟩ ++ t.extract p t.size
theorem zeros_size (d : Nat) : (zeros d).size = d := by
 show (zeros d).data.size = d
 simp [zeros]
theorem dotted_short (s : ByteArray) (c d : Nat) (hs : 0 < s.size) (hs2 : s.size <= 20) (hc : 0 < c) (hc2 : c <= 18) (hd : c + 1 = s.size + d) (hd0 : 0 < d) (w : World) :
 Calls Tryz.prog 104 #[.string s, .int .i64 (c : Int)] w fun e w' => e = .returned (.string (dotAt (zeros d ++ s) 1)) /\ Grow w w' := by
 have K : Hid (∀ W, Calls Tryz.prog 138 #[.string ⟨#[48]⟩, .int .i64 (d : Int)] W fun e w' => e = .returned (.string (zeros d)) /\ Grow W w') := fun W => rep_any d hd0 (by omega) W
 have e1 : (c : Int) + 1 - (s.size : Int) = (d : Int) := by omega
 have hz := zeros_size d
 generalize zeros d = z at *
 have e2 : (z.size : Int) + (s.size : Int) - (c : Int) = 1 := by omega
 have e3 : z.size + s.size <= 40 := by omega
 have e4 : 1 <= z.size + s.size := by omega
 have HR : Hid (dotAt (z ++ s) 1 = (z ++ s).extract 0 1 ++ ⟨#[46]⟩ ++ (z ++ s).extract 1 (z.size + s.size)) := by
  show _ = _
  unfold dotAt
  rw [ByteArray.size_append]
 clear hz hd
 generalize dotAt (z ++ s) 1 = R at *
 go_enter Tryz.func104, Tryz.ntmps104
 go_wp2_with fail
 refine (K.out _).mono ?_
 rintro e w2 ⟨rfl, g2⟩
 have G : Hid (Grow w w2) := g2
 clear g2 K
 go_wp2
 go_quiet (fail)
 go_wp2
 go_ret
 exact ⟨ret_str HR.out.symm, G.out.trans (grow_dq _ _)⟩
theorem dotted_long (s : ByteArray) (c p : Nat) (hs2 : s.size <= 20) (hc : 0 < c) (hp : s.size = c + p) (hp0 : 0 < p) (w : World) :
 Calls Tryz.prog 104 #[.string s, .int .i64 (c : Int)] w fun e w' => e = .returned (.string (dotAt s p)) /\ Grow w w' := by
 have e2 : (s.size : Int) - (c : Int) = (p : Int) := by omega
 have e3 : ¬ (c : Int) + 1 - (s.size : Int) > 0 := by omega
 have e4 : p <= s.size := by omega
 have HR : Hid (dotAt s p = s.extract 0 p ++ ⟨#[46]⟩ ++ s.extract p s.size) := rfl
 clear hp
 generalize dotAt s p = R at *
 go_enter Tryz.func104, Tryz.ntmps104
 go_wp2
 go_quiet (fail)
 go_wp2
 go_ret
 exact ⟨ret_str HR.out.symm, grow_dq _ _⟩
end Go.Proofs.YtobfdcdobhhagaaGreatDoor.D6
namespace Go.Proofs.YtobfdcdobhhagaaGreatDoor.D6
open Go.RowKit
set_option linter.unusedVariables false
theorem zN : (Tryz.prog.info? 123).map (fun i => i.zero.map (·.cells)) = some (some (List.toArray [.bool false, .int .u64 0, .int .u64 0, .int .i64 0])) := by kernel_rfl
def dotN (D : ByteArray) (s : Nat) : ByteArray := if D.size <= s then dotAt (zeros (s + 1 - D.size) ++ D) 1 else dotAt D (D.size - s)
theorem dotted_any (D : ByteArray) (s : Nat) (h0 : 0 < D.size) (h1 : D.size <= 20) (s0 : 0 < s) (s1 : s <= 18) (w : World) :
 Calls Tryz.prog 104 #[.string D, .int .i64 (s : Int)] w fun e w' => e = .returned (.string (dotN D s)) /\ Grow w w' := by
 unfold dotN
 split
 . exact dotted_short D s (s + 1 - D.size) h0 h1 s0 s1 (by omega) (by omega) w
 . exact dotted_long D s (D.size - s) h1 s0 (by omega) (by omega) w
theorem dotAt_size (t : ByteArray) (p : Nat) (hp : p <= t.size) : (dotAt t p).size = t.size + 1 := by
 unfold dotAt
 rw [ByteArray.size_append, ByteArray.size_append, ByteArray.size_extract, ByteArray.size_extract]
 have : (⟨#[46]⟩ : ByteArray).size = 1 := rfl
 omega
theorem dotN_size (D : ByteArray) (s : Nat) (h0 : 0 < D.size) (h1 : D.size <= 20) (s1 : s <= 18) : (dotN D s).size <= 40 := by
 unfold dotN
 split
 . rw [dotAt_size _ _ (by rw [ByteArray.size_append, zeros_size]; omega), ByteArray.size_append, zeros_size]; omega
 . rw [dotAt_size _ _ (by omega)]; omega
def txt (n : Int) (s : Nat) (D : ByteArray) : ByteArray := if n < 0 then ⟨#[45]⟩ ++ (if s = 0 then D else dotN D s) else (if s = 0 then D else dotN D s)
end Go.Proofs.YtobfdcdobhhagaaGreatDoor.D6
namespace Go.Proofs
open Go.Shelf
def Tryz.lays160_ren : Go.Shelf.Ren := ⟨fun | 160 => 175 | 232 => 201 | 231 => 177 | 227 => 178 | 234 => 202 | 233 => 179 | 236 => 203 | 235 => 180 | 228 => 205 | 271 => 215 | 151 => 206 | 197 => 163 | 120 => 208 | 152 => 216 | 260 => 193 | 137 => 181 | 119 => 218 | 224 => 188 | 225 => 187 | 217 => 186 | 266 => 210 | n => n, fun | 9 => 9 | 4 => 4 | 3 => 3 | 5 => 5 | 117 => 184 | 116 => 183 | 0 => 0 | 124 => 187 | 21 => 21 | 105 => 171 | 46 => 116 | 119 => 204 | 139 => 207 | 138 => 206 | n => n, fun | 3 => 4 | 4 => 5 | n => n⟩
theorem Tryz.lays160 : Go.Proofs.Lays.n160 Tryz.prog Tryz.lays160_ren := {
 mixed := by kernel_rfl
 f119 := Tryz.func218.trans (congrArg some (by kernel_rfl))
 f120 := Tryz.func208.trans (congrArg some (by kernel_rfl))
 f137 := Tryz.func181.trans (congrArg some (by kernel_rfl))
 f151 := Tryz.func206.trans (congrArg some (by kernel_rfl))
 f152 := Tryz.func216.trans (congrArg some (by kernel_rfl))
 f160 := Tryz.func175.trans (congrArg some (by kernel_rfl))
 f197 := Tryz.func163.trans (congrArg some (by kernel_rfl))
 f217 := Tryz.func186.trans (congrArg some (by kernel_rfl))
 f224 := Tryz.func188.trans (congrArg some (by kernel_rfl))
 f225 := Tryz.func187.trans (congrArg some (by kernel_rfl))
 f227 := Tryz.func178.trans (congrArg some (by kernel_rfl))
 f228 := Tryz.func205.trans (congrArg some (by kernel_rfl))
 f231 := Tryz.func177.trans (congrArg some (by kernel_rfl))
 f232 := Tryz.func201.trans (congrArg some (by kernel_rfl))
 f233 := Tryz.func179.trans (congrArg some (by kernel_rfl))
 f234 := Tryz.func202.trans (congrArg some (by kernel_rfl))
 f235 := Tryz.func180.trans (congrArg some (by kernel_rfl))
 f236 := Tryz.func203.trans (congrArg some (by kernel_rfl))
 f260 := Tryz.func193.trans (congrArg some (by kernel_rfl))
 f266 := Tryz.func210.trans (congrArg some (by kernel_rfl))
 f271 := Tryz.func215.trans (congrArg some (by kernel_rfl))
 t0 := Tryz.underlying0
 a0 := Tryz.isAgg0
 z0 := Tryz.sizeOf0
 v0 := Tryz.zeroValue0
 t3 := Tryz.underlying3
 a3 := Tryz.isAgg3
 z3 := Tryz.sizeOf3
 v3 := Tryz.zeroValue3
 t4 := Tryz.underlying4
 a4 := Tryz.isAgg4
 z4 := Tryz.sizeOf4
 v4 := Tryz.zeroValue4
 t5 := Tryz.underlying5
 a5 := Tryz.isAgg5
 z5 := Tryz.sizeOf5
 v5 := Tryz.zeroValue5
 t9 := Tryz.underlying9
 a9 := Tryz.isAgg9
 z9 := Tryz.sizeOf9
 v9 := Tryz.zeroValue9
 t21 := Tryz.underlying21
 a21 := Tryz.isAgg21
 z21 := Tryz.sizeOf21
 v21 := Tryz.zeroValue21
 t46 := Tryz.underlying116
 a46 := Tryz.isAgg116
 z46 := Tryz.sizeOf116
 v46 := Tryz.zeroValue116
 t105 := Tryz.underlying171
 a105 := Tryz.isAgg171
 z105 := Tryz.sizeOf171
 v105 := Tryz.zeroValue171
 t116 := Tryz.underlying183
 a116 := Tryz.isAgg183
 z116 := Tryz.sizeOf183
 t117 := Tryz.underlying184
 a117 := Tryz.isAgg184
 z117 := Tryz.sizeOf184
 v117 := Tryz.zeroValue184
 t119 := Tryz.underlying204
 a119 := Tryz.isAgg204
 z119 := Tryz.sizeOf204
 t124 := Tryz.underlying187
 a124 := Tryz.isAgg187
 z124 := Tryz.sizeOf187
 v124 := Tryz.zeroValue187
 t138 := Tryz.underlying206
 a138 := Tryz.isAgg206
 z138 := Tryz.sizeOf206
 v138 := Tryz.zeroValue206
 t139 := Tryz.underlying207
 a139 := Tryz.isAgg207
 z139 := Tryz.sizeOf207
 v139 := Tryz.zeroValue207
 g3 := by kernel_rfl
 g4 := by kernel_rfl }
def Tryz.lays103_ren : Go.Shelf.Ren := ⟨fun | 103 => 140 | 210 => 172 | 206 => 200 | n => n, fun | 9 => 9 | 4 => 4 | 24 => 32 | 3 => 3 | n => n, fun | n => n⟩
theorem Tryz.lays103 : Go.Proofs.Lays.n103 Tryz.prog Tryz.lays103_ren := {
 mixed := by kernel_rfl
 f103 := Tryz.func140.trans (congrArg some (by kernel_rfl))
 f206 := Tryz.func200.trans (congrArg some (by kernel_rfl))
 f210 := Tryz.func172.trans (congrArg some (by kernel_rfl))
 t3 := Tryz.underlying3
 a3 := Tryz.isAgg3
 z3 := Tryz.sizeOf3
 v3 := Tryz.zeroValue3
 t4 := Tryz.underlying4
 a4 := Tryz.isAgg4
 z4 := Tryz.sizeOf4
 v4 := Tryz.zeroValue4
 t9 := Tryz.underlying9
 a9 := Tryz.isAgg9
 z9 := Tryz.sizeOf9
 v9 := Tryz.zeroValue9
 t24 := Tryz.underlying32
 a24 := Tryz.isAgg32
 z24 := Tryz.sizeOf32
 v24 := Tryz.zeroValue32 }
def Tryz.lays283_ren : Go.Shelf.Ren := ⟨fun | 283 => 165 | n => n, fun | 3 => 3 | 9 => 9 | 4 => 4 | n => n, fun | n => n⟩
theorem Tryz.lays283 : Go.Proofs.Lays.n283 Tryz.prog Tryz.lays283_ren := {
 mixed := by kernel_rfl
 f283 := Tryz.func165.trans (congrArg some (by kernel_rfl))
 t3 := Tryz.underlying3
 a3 := Tryz.isAgg3
 z3 := Tryz.sizeOf3
 v3 := Tryz.zeroValue3
 t4 := Tryz.underlying4
 a4 := Tryz.isAgg4
 z4 := Tryz.sizeOf4
 v4 := Tryz.zeroValue4
 t9 := Tryz.underlying9
 a9 := Tryz.isAgg9
 z9 := Tryz.sizeOf9
 v9 := Tryz.zeroValue9 }
def Tryz.laysM284_ren : Go.Shelf.Ren := ⟨fun | 284 => 166 | 129 => 195 | 317 => 194 | 318 => 196 | n => n, fun | 53 => 82 | 3 => 3 | 212 => 194 | 0 => 0 | 4 => 4 | 46 => 116 | 5 => 5 | 9 => 9 | n => n, fun | 17 => 1 | n => n⟩
theorem Tryz.laysM284 : Go.Proofs.LaysM.n284 Tryz.prog Tryz.laysM284_ren := {
 mixed := by kernel_rfl
 f129 := Tryz.func195.trans (congrArg some (by kernel_rfl))
 f284 := Tryz.func166.trans (congrArg some (by kernel_rfl))
 f317 := Tryz.func194.trans (congrArg some (by kernel_rfl))
 f318 := Tryz.func196.trans (congrArg some (by kernel_rfl))
 t0 := Tryz.underlying0
 a0 := Tryz.isAgg0
 z0 := Tryz.sizeOf0
 v0 := Tryz.zeroValue0
 t3 := Tryz.underlying3
 a3 := Tryz.isAgg3
 z3 := Tryz.sizeOf3
 v3 := Tryz.zeroValue3
 t4 := Tryz.underlying4
 a4 := Tryz.isAgg4
 z4 := Tryz.sizeOf4
 v4 := Tryz.zeroValue4
 t5 := Tryz.underlying5
 a5 := Tryz.isAgg5
 z5 := Tryz.sizeOf5
 v5 := Tryz.zeroValue5
 t9 := Tryz.underlying9
 a9 := Tryz.isAgg9
 z9 := Tryz.sizeOf9
 v9 := Tryz.zeroValue9
 t46 := Tryz.underlying116
 a46 := Tryz.isAgg116
 z46 := Tryz.sizeOf116
 v46 := Tryz.zeroValue116
 t53 := Tryz.underlying82
 a53 := Tryz.isAgg82
 z53 := Tryz.sizeOf82
 v53 := Tryz.zeroValue82
 t212 := Tryz.underlying194
 a212 := Tryz.isAgg194
 z212 := Tryz.sizeOf194
 v212 := Tryz.zeroValue194
 g17 := by kernel_rfl
 i0 := by kernel_rfl
 i3 := by kernel_rfl
 i4 := by kernel_rfl
 i5 := by kernel_rfl
 i9 := by kernel_rfl
 i46 := by kernel_rfl
 i53 := by kernel_rfl
 i212 := by kernel_rfl
 m17 := by kernel_rfl }
def Tryz.lays285_ren : Go.Shelf.Ren := ⟨fun | 285 => 167 | n => n, fun | 37 => 52 | 53 => 82 | 3 => 3 | 4 => 4 | 51 => 113 | 9 => 9 | 5 => 5 | 0 => 0 | n => n, fun | n => n⟩
theorem Tryz.lays285 : Go.Proofs.Lays.n285 Tryz.prog Tryz.lays285_ren := {
 mixed := by kernel_rfl
 f285 := Tryz.func167.trans (congrArg some (by kernel_rfl))
 t0 := Tryz.underlying0
 a0 := Tryz.isAgg0
 z0 := Tryz.sizeOf0
 v0 := Tryz.zeroValue0
 t3 := Tryz.underlying3
 a3 := Tryz.isAgg3
 z3 := Tryz.sizeOf3
 v3 := Tryz.zeroValue3
 t4 := Tryz.underlying4
 a4 := Tryz.isAgg4
 z4 := Tryz.sizeOf4
 v4 := Tryz.zeroValue4
 t5 := Tryz.underlying5
 a5 := Tryz.isAgg5
 z5 := Tryz.sizeOf5
 v5 := Tryz.zeroValue5
 t9 := Tryz.underlying9
 a9 := Tryz.isAgg9
 z9 := Tryz.sizeOf9
 v9 := Tryz.zeroValue9
 t37 := Tryz.underlying52
 a37 := Tryz.isAgg52
 z37 := Tryz.sizeOf52
 v37 := Tryz.zeroValue52
 t51 := Tryz.underlying113
 a51 := Tryz.isAgg113
 z51 := Tryz.sizeOf113
 v51 := Tryz.zeroValue113
 t53 := Tryz.underlying82
 a53 := Tryz.isAgg82
 z53 := Tryz.sizeOf82
 v53 := Tryz.zeroValue82 }
end Go.Proofs
