/-
   ·  ·  ·  ·  ·  ·  ·  · 
-/
import Derived.Test.YtpfiejmhnkcjbaaGreatDoorHG22x
import Derived.Test.YtpfiejmhnkcjbaaGreatDoorHD6Shz
import Derived.Lib.ItoaMem
import Derived.Lib.Walk
import Derived.Lib.AppendIntMem
namespace Go.Proofs.YtpfiejmhnkcjbaaGreatDoor.D6
set_option maxHeartbeats 2000000
set_option maxRecDepth 8000
open Go.RowKit
set_option linter.unusedVariables false
def isNum (k n s : Int) (t : ByteArray) (nl kl : Nat) : Bool :=
 (decide (k = 3) && decide (s = 0) || decide (k = 4) && decide (1 <= s) && decide (s <= 18) && !decide (n.tmod 10 = 0)) && t.toList.isEmpty && decide (nl = 0) && decide (kl = 0)
theorem bytes_nil {t : ByteArray} (h : t.toList.isEmpty = true) : t = ⟨#[]⟩ := by
 rw [ByteArray.toList_eq] at h
 cases t with
 | mk d =>
   have : d.toList = [] := by simpa using h
   simp only [ByteArray.mk.injEq]
   exact Array.toList_inj.1 (by simpa using this)
theorem isNum_yes {k n s : Int} {t : ByteArray} {nl kl : Nat} (h : isNum k n s t nl kl = true) : t = ⟨#[]⟩ /\ nl = 0 /\ kl = 0 /\ ((k = 3 /\ s = 0) ∨ (k = 4 /\ 1 <= s /\ s <= 18 /\ n.tmod 10 ≠ 0)) := by
 simp only [isNum, Bool.and_eq_true, Bool.or_eq_true, decide_eq_true_eq, Bool.not_eq_true', decide_eq_false_iff_not] at h
 obtain ⟨⟨⟨h1, h2⟩, h3⟩, h4⟩ := h
 refine ⟨bytes_nil h2, h3, h4, ?_⟩
 rcases h1 with h1 | ⟨⟨⟨a, b⟩, c⟩, d⟩
 . exact .inl h1
 . exact .inr ⟨a, b, c, d⟩
def only (n s : Int) (t : ByteArray) (nl kl : Nat) (F : Int) : Bool :=
 (F = 1 || F = 3 || decide (n = 0)) && (F = 3 || decide (s = 0)) && t.toList.isEmpty && decide (nl = 0) && decide (kl = 0)
theorem only_any (k n s : Int) (t : ByteArray) (na : Option Addr) (nl nc : Nat) (ka : Option Addr) (kl kc : Nat) (F : Int) (hF : F = 1 ∨ F = 3) (w : World) :
 Calls Tryz.prog 181 #[.agg #[.int .i64 k, .int .i64 n, .int .i64 s, .string t, .slice na nl nc, .slice ka kl kc], .int .u64 F] w fun e w' => e = .returned (.bool (only n s t nl kl F)) /\ Grow w w' := by
 have HF : Hid _ := hF
 clear hF
 go_enter Tryz.func181, Tryz.ntmps181
 go_wp2
 all_goals
  go_ret
  refine ⟨?_, (Grow.refl _).alloc _⟩
  unfold only
  cases hte : t.toList.isEmpty <;> rcases HF.out with rfl | rfl <;> simp_all <;> decide
theorem num_of_only3 (n s : Int) (t : ByteArray) (nl kl : Nat) : isNum 3 n s t nl kl = only n s t nl kl 1 := by
 simp [isNum, only]
theorem num_of_only4 (n s : Int) (t : ByteArray) (nl kl : Nat) : isNum 4 n s t nl kl = (only n s t nl kl 3 && decide (1 <= s) && decide (s <= 18) && !decide (n.tmod 10 = 0)) := by
 simp only [isNum, only]
 cases t.toList.isEmpty <;> cases decide (nl = 0) <;> cases decide (kl = 0) <;> simp
theorem formed3 (n s : Int) (t : ByteArray) (na : Option Addr) (nl nc : Nat) (ka : Option Addr) (kl kc : Nat) (w : World) :
 Calls Tryz.prog 173 #[.agg #[.int .i64 3, .int .i64 n, .int .i64 s, .string t, .slice na nl nc, .slice ka kl kc]] w fun e w' => e = .returned (.bool (isNum 3 n s t nl kl)) /\ Grow w w' := by
 have K : Hid (∀ W, Calls Tryz.prog 181 #[.agg #[.int .i64 3, .int .i64 n, .int .i64 s, .string t, .slice na nl nc, .slice ka kl kc], .int .u64 1] W fun e w' => e = .returned (.bool (isNum 3 n s t nl kl)) /\ Grow W w') := fun W => by
  rw [num_of_only3]
  exact only_any 3 n s t na nl nc ka kl kc 1 (.inl rfl) W
 generalize isNum 3 n s t nl kl = R at *
 go_enter Tryz.func173, Tryz.ntmps173
 go_wp2_with fail
 refine (K.out _).mono ?_
 rintro e w2 ⟨rfl, g2⟩
 have G : Hid (Grow w w2) := Grow.trans ((Grow.refl _).alloc _) g2
 clear g2 K
 go_wp2
 go_ret
 exact ⟨rfl, G.out⟩
theorem formed4 (n s : Int) (t : ByteArray) (na : Option Addr) (nl nc : Nat) (ka : Option Addr) (kl kc : Nat) (w : World) :
 Calls Tryz.prog 173 #[.agg #[.int .i64 4, .int .i64 n, .int .i64 s, .string t, .slice na nl nc, .slice ka kl kc]] w fun e w' => e = .returned (.bool (isNum 4 n s t nl kl)) /\ Grow w w' := by
 obtain ⟨O, hO⟩ : ∃ O, only n s t nl kl 3 = O := ⟨_, rfl⟩
 have K : Hid (∀ W, Calls Tryz.prog 181 #[.agg #[.int .i64 4, .int .i64 n, .int .i64 s, .string t, .slice na nl nc, .slice ka kl kc], .int .u64 3] W fun e w' => e = .returned (.bool O) /\ Grow W w') := fun W => by
  rw [<- hO]
  exact only_any 4 n s t na nl nc ka kl kc 3 (.inr rfl) W
 have HR : Hid (isNum 4 n s t nl kl = (O && decide (1 <= s) && decide (s <= 18) && !decide (n.tmod 10 = 0))) := by
  show _ = _
  rw [num_of_only4, hO]
 clear hO
 generalize isNum 4 n s t nl kl = R at *
 go_enter Tryz.func173, Tryz.ntmps173
 go_wp2_with fail
 refine (K.out _).mono ?_
 rintro e w2 ⟨rfl, g2⟩
 have bB : Blk w2 w.heap.size 41 [.int .i64 4, .int .i64 n, .int .i64 s, .string t, .slice na nl nc, .slice ka kl kc] := Blk.grow (blk_at rfl) g2
 have c1 : w2.cell? ⟨w.heap.size, 1, none⟩ = some (.int .i64 n) := bB.cell 1
 have c2 : w2.cell? ⟨w.heap.size, 2, none⟩ = some (.int .i64 s) := bB.cell 2
 have G : Hid (Grow w w2) := Grow.trans ((Grow.refl _).alloc _) g2
 clear g2 K bB
 cases O
 . go_wp2
   go_ret
   exact ⟨by rw [HR.out]; rfl, G.out⟩
 . go_wp2
   all_goals
    go_ret
    refine ⟨?_, G.out⟩
    rw [HR.out]
    by_cases e0 : n.tmod 10 = 0 <;> by_cases e1 : 1 <= s <;> by_cases e2 : s <= 18 <;> simp [e0, e1, e2] <;> omega
def chkN (b : Bool) : Int := if b then 0 else 3
theorem checkAt_no (k n s : Int) (t : ByteArray) (na : Option Addr) (nl nc : Nat) (ka : Option Addr) (kl kc : Nat) (K : Hid (∀ W, Calls Tryz.prog 173 #[.agg #[.int .i64 k, .int .i64 n, .int .i64 s, .string t, .slice na nl nc, .slice ka kl kc]] W fun e w' => e = .returned (.bool false) /\ Grow W w')) (w : World) :
 Calls Tryz.prog 159 #[.agg #[.int .i64 k, .int .i64 n, .int .i64 s, .string t, .slice na nl nc, .slice ka kl kc], .int .i64 1] w fun e w' => e = .returned (.int .i64 3) /\ Grow w w' := by
 go_enter Tryz.func159, Tryz.ntmps159
 go_wp2_with fail
 refine (K.out _).mono ?_
 rintro e w2 ⟨rfl, g2⟩
 have G : Hid (Grow w w2) := Grow.trans ((Grow.refl _).alloc _) g2
 clear g2 K
 go_wp2
 go_ret
 exact ⟨rfl, G.out⟩
theorem checkAt_yes (k n s : Int) (na : Option Addr) (nc : Nat) (ka : Option Addr) (kc : Nat) (hk : ¬ k = 9) (K : Hid (∀ W, Calls Tryz.prog 173 #[.agg #[.int .i64 k, .int .i64 n, .int .i64 s, .string ⟨#[]⟩, .slice na 0 nc, .slice ka 0 kc]] W fun e w' => e = .returned (.bool true) /\ Grow W w')) (w : World) :
 Calls Tryz.prog 159 #[.agg #[.int .i64 k, .int .i64 n, .int .i64 s, .string ⟨#[]⟩, .slice na 0 nc, .slice ka 0 kc], .int .i64 1] w fun e w' => e = .returned (.int .i64 0) /\ Grow w w' := by
 go_enter Tryz.func159, Tryz.ntmps159
 go_wp2_with fail
 refine (K.out _).mono ?_
 rintro e w2 ⟨rfl, g2⟩
 have bB : Blk w2 w.heap.size 41 [.int .i64 k, .int .i64 n, .int .i64 s, .string ⟨#[]⟩, .slice na 0 nc, .slice ka 0 kc] := Blk.grow (blk_at rfl) g2
 have c0 : w2.cell? ⟨w.heap.size, 0, none⟩ = some (.int .i64 k) := bB.cell 0
 have c3 : w2.cell? ⟨w.heap.size, 3, none⟩ = some (.string ⟨#[]⟩) := bB.cell 3
 have c5 : w2.cell? ⟨w.heap.size, 5, none⟩ = some (.slice ka 0 kc) := bB.cell 5
 have G : Hid (Grow w w2) := Grow.trans ((Grow.refl _).alloc _) g2
 clear g2 K bB
 go_wp2
 go_loopw [34] (fun i wr => i = .int .i64 0 /\ wr = w2) (fun _ _ => 0)
 case atStart => exact ⟨rfl, rfl⟩
 case round =>
  obtain ⟨rfl, rfl⟩ := hrel
  go_wp2
  go_ret
  exact ⟨rfl, G.out⟩
end Go.Proofs.YtpfiejmhnkcjbaaGreatDoor.D6
namespace Go.Proofs.YtpfiejmhnkcjbaaGreatDoor.D6
set_option maxRecDepth 8000
open Go.RowKit
set_option linter.unusedVariables false
theorem vCheck_num (k n s : Int) (hk : k = 3 ∨ k = 4) (t : ByteArray) (na : Option Addr) (nl nc : Nat) (ka : Option Addr) (kl kc : Nat) (w : World) :
 Calls Tryz.prog 137 #[.agg #[.int .i64 k, .int .i64 n, .int .i64 s, .string t, .slice na nl nc, .slice ka kl kc]] w fun e w' => e = .returned (.int .i64 (chkN (isNum k n s t nl kl))) /\ Grow w w' := by
 have K : Hid (∀ W, Calls Tryz.prog 159 #[.agg #[.int .i64 k, .int .i64 n, .int .i64 s, .string t, .slice na nl nc, .slice ka kl kc], .int .i64 1] W fun e w' => e = .returned (.int .i64 (chkN (isNum k n s t nl kl))) /\ Grow W w') := fun W => by
  have F : ∀ W, Calls Tryz.prog 173 #[.agg #[.int .i64 k, .int .i64 n, .int .i64 s, .string t, .slice na nl nc, .slice ka kl kc]] W fun e w' => e = .returned (.bool (isNum k n s t nl kl)) /\ Grow W w' := fun W => by
   rcases hk with rfl | rfl
   . exact formed3 n s t na nl nc ka kl kc W
   . exact formed4 n s t na nl nc ka kl kc W
  cases hN : isNum k n s t nl kl with
  | false =>
    rw [hN] at F
    exact checkAt_no k n s t na nl nc ka kl kc F W
  | true =>
    obtain ⟨rfl, rfl, rfl, _⟩ := isNum_yes hN
    rw [hN] at F
    exact checkAt_yes k n s na nc ka kc (by rcases hk with rfl | rfl <;> decide) F W
 generalize chkN (isNum k n s t nl kl) = E at *
 clear hk
 go_enter Tryz.func137, Tryz.ntmps137
 go_wp2_with fail
 refine (K.out _).mono ?_
 rintro e w2 ⟨rfl, g2⟩
 have G : Hid (Grow w w2) := Grow.trans ((Grow.refl _).alloc _) g2
 clear g2 K
 go_wp2
 go_ret
 exact ⟨rfl, G.out⟩
theorem isNum_kind {k n s : Int} {t : ByteArray} {nl kl : Nat} (h3 : ¬ k = 3) (h4 : ¬ k = 4) : isNum k n s t nl kl = false := by
 simp [isNum, h3, h4]
theorem isNumber_any (k n s : Int) (t : ByteArray) (na : Option Addr) (nl nc : Nat) (ka : Option Addr) (kl kc : Nat) (w : World) :
 Calls Tryz.prog 164 #[.agg #[.int .i64 k, .int .i64 n, .int .i64 s, .string t, .slice na nl nc, .slice ka kl kc]] w fun e w' => e = .returned (.bool (isNum k n s t nl kl)) /\ Grow w w' := by
 by_cases hk : k = 3 ∨ k = 4
 . have K : Hid (∀ W, Calls Tryz.prog 137 #[.agg #[.int .i64 k, .int .i64 n, .int .i64 s, .string t, .slice na nl nc, .slice ka kl kc]] W fun e w' => e = .returned (.int .i64 (chkN (isNum k n s t nl kl))) /\ Grow W w') := fun W => vCheck_num k n s hk t na nl nc ka kl kc W
   have HE : Hid ((chkN (isNum k n s t nl kl) == 0) = isNum k n s t nl kl) := by
    show _ = _
    cases isNum k n s t nl kl <;> rfl
   generalize chkN (isNum k n s t nl kl) = E at *
   generalize isNum k n s t nl kl = R at *
   rcases hk with rfl | rfl
   all_goals
    go_enter Tryz.func164, Tryz.ntmps164
    go_wp2_with fail
    refine (K.out _).mono ?_
    rintro e w2 ⟨rfl, g2⟩
    have G : Hid (Grow w w2) := Grow.trans ((Grow.refl _).alloc _) g2
    clear g2 K
    have he := HE.out
    go_wp2
    go_ret
    exact ⟨rfl, G.out⟩
 . have h3 : ¬ k = 3 := fun e => hk (.inl e)
   have h4 : ¬ k = 4 := fun e => hk (.inr e)
   rw [isNum_kind h3 h4]
   clear hk
   go_enter Tryz.func164, Tryz.ntmps164
   go_wp2
   go_ret
   exact ⟨rfl, (Grow.refl _).alloc _⟩
end Go.Proofs.YtpfiejmhnkcjbaaGreatDoor.D6
namespace Go.Proofs.YtpfiejmhnkcjbaaGreatDoor.D6
open Go.RowKit
set_option linter.unusedVariables false
end Go.Proofs.YtpfiejmhnkcjbaaGreatDoor.D6
namespace Go.Proofs.YtpfiejmhnkcjbaaGreatDoor.D6
open Go.RowKit
set_option linter.unusedVariables false
structure Vv where
 k : Int
 n : Int
 s : Int
 t : ByteArray
 na : Option Addr
 nl : Nat
 nc : Nat
 ka : Option Addr
 kl : Nat
 kc : Nat
def Vv.num (v : Vv) : Bool := isNum v.k v.n v.s v.t v.nl v.kl
end Go.Proofs.YtpfiejmhnkcjbaaGreatDoor.D6
namespace Go.Proofs.YtpfiejmhnkcjbaaGreatDoor.D6
set_option maxRecDepth 20000
open Go.RowKit
set_option linter.unusedVariables false
theorem hp_of (s : ByteArray) (b : Bool) (hs : 1 <= s.size) (hb : ((s.extract 0 1).toList == [48]) = b) (w : World) : Calls Tryz.prog 31 #[.string s, .string ⟨#[48]⟩] w fun e w' => e = .returned (.bool b) /\ w' = w := by
 go_enter Tryz.func31, Tryz.ntmps31
 go_wp2
 go_ret
 exact ⟨rfl, rfl⟩
theorem hp_no (s : ByteArray) (h : (decide (1 <= s.size) && !((s.extract 0 1).toList == [48])) = true) (w : World) : Calls Tryz.prog 31 #[.string s, .string ⟨#[48]⟩] w fun e w' => e = .returned (.bool false) /\ w' = w := by
 simp only [Bool.and_eq_true, decide_eq_true_eq, Bool.not_eq_true'] at h
 exact hp_of s false h.1 h.2 w
theorem hp_yes (s : ByteArray) (h : (decide (1 <= s.size) && ((s.extract 0 1).toList == [48])) = true) (w : World) : Calls Tryz.prog 31 #[.string s, .string ⟨#[48]⟩] w fun e w' => e = .returned (.bool true) /\ w' = w := by
 simp only [Bool.and_eq_true, decide_eq_true_eq] at h
 exact hp_of s true h.1 h.2 w
theorem mulB (x y : Nat) (hx : x < 18446744073709551616) (hy : y < 18446744073709551616) (h l : Nat) (hw : Wd h l (x * y)) (w : World) :
 Calls Tryz.prog 186 #[.int .u64 (x : Int), .int .u64 (y : Int)] w fun e w' => e = .returned (.tuple #[.int .u64 (h : Int), .int .u64 (l : Int)]) /\ w' = w := by
 have k := fun W => mul60 x y hx hy W
 rw [show x * y / 18446744073709551616 = h by rw [<- hw.eq]; have := hw.l1; omega, show x * y % 18446744073709551616 = l by rw [<- hw.eq]; have := hw.l1; omega] at k
 have HK : Hid (∀ W, Calls Tryz.prog 81 #[.int .u64 (x : Int), .int .u64 (y : Int)] W fun e w' => e = .returned (.tuple #[.int .u64 (h : Int), .int .u64 (l : Int)]) /\ w' = W) := k
 clear k hw hx hy
 go_enter Tryz.func186, Tryz.ntmps186
 go_wp2_with (go_at_call 81; refine (HK.out _).mono ?_; rintro e w' ⟨rfl, rfl⟩)
 go_ret2
 exact ⟨rfl, rfl⟩
def zeros (n : Nat) : ByteArray := ⟨(List.replicate n 48).toArray⟩
theorem ret_str {a b : ByteArray} (h : a = b) : Ending.returned (.string a) = .returned (.string b) := by rw [h]
theorem zeros_ext (c n : Nat) (h : c <= n) : (zeros n).extract 0 c = zeros c := by
 apply ByteArray.ext
 simp only [zeros, ByteArray.data_extract]
 apply Array.toList_inj.1
 simp [Nat.min_eq_left h]
theorem rep_any (c : Nat) (h0 : 0 < c) (h64 : c <= 64) (w : World) : Calls Tryz.prog 178 #[.string ⟨#[48]⟩, .int .i64 (c : Int)] w fun e w' => e = .returned (.string (zeros c)) /\ Grow w w' := by
 by_cases h1 : c = 1
 . subst h1
   go_enter Tryz.func178, Tryz.ntmps178
   go_wp2
   go_ret
   exact ⟨rfl, Grow.refl _⟩
 have K : Hid (∀ W, Calls Tryz.prog 186 #[.int .u64 1, .int .u64 (c : Int)] W fun e w' => e = .returned (.tuple #[.int .u64 0, .int .u64 (c : Int)]) /\ w' = W) := fun W => mulB 1 c (by omega) (by omega) 0 c ⟨by omega, by omega, by omega⟩ W
 have n0 : ¬ c = 0 := by omega
 go_enter Tryz.func178, Tryz.ntmps178
 go_wp2_with (first
  | (go_at_call 186; refine (K.out _).mono ?_; rintro e w' ⟨rfl, rfl⟩)
  | (go_at_call 31; first | (refine (hp_no _ ?hh _).mono ?_; (case hh => decide +kernel); rintro e w' ⟨rfl, rfl⟩) | (refine (hp_yes _ ?hh _).mono ?_; (case hh => decide +kernel); rintro e w' ⟨rfl, rfl⟩)))
 go_ret
 exact ⟨ret_str (zeros_ext c 64 h64), Grow.refl _⟩
def dotAt (t : ByteArray) (p : Nat) : ByteArray := t.extract 0 p ++ ⟨#[46]⟩ ++ t.extract p t.size
theorem zeros_size (d : Nat) : (zeros d).size = d := by
 show (zeros d).data.size = d
 simp [zeros]
theorem dotted_short (s : ByteArray) (c d : Nat) (hs : 0 < s.size) (hs2 : s.size <= 20) (hc : 0 < c) (hc2 : c <= 18) (hd : c + 1 = s.size + d) (hd0 : 0 < d) (w : World) :
 Calls Tryz.prog 167 #[.string s, .int .i64 (c : Int)] w fun e w' => e = .returned (.string (dotAt (zeros d ++ s) 1)) /\ Grow w w' := by
 have K : Hid (∀ W, Calls Tryz.prog 178 #[.string ⟨#[48]⟩, .int .i64 (d : Int)] W fun e w' => e = .returned (.string (zeros d)) /\ Grow W w') := fun W => rep_any d hd0 (by omega) W
 have e1 : (c : Int) + 1 - (s.size : Int) = (d : Int) := by omega
 have hz := zeros_size d
 generalize zeros d = z at *
 have e2 : (z.size : Int) + (s.size : Int) - (c : Int) = 1 := by omega
 have e3 : z.size + s.size <= 40 := by omega
 have e4 : 1 <= z.size + s.size := by omega
 have HR : Hid (dotAt (z ++ s) 1 = (z ++ s).extract 0 1 ++ ⟨#[46]⟩ ++ (z ++ s).extract 1 (z.size + s.size)) := by
  show _ = _
  unfold dotAt
  rw [ByteArray.size_append]
 clear hz hd
 generalize dotAt (z ++ s) 1 = R at *
 go_enter Tryz.func167, Tryz.ntmps167
 go_wp2_with fail
 refine (K.out _).mono ?_
 rintro e w2 ⟨rfl, g2⟩
 have G : Hid (Grow w w2) := g2
 clear g2 K
 go_wp2
 go_quiet (fail)
 go_wp2
 go_ret
 exact ⟨ret_str HR.out.symm, G.out.trans (grow_dq _ _)⟩
theorem dotted_long (s : ByteArray) (c p : Nat) (hs2 : s.size <= 20) (hc : 0 < c) (hp : s.size = c + p) (hp0 : 0 < p) (w : World) :
 Calls Tryz.prog 167 #[.string s, .int .i64 (c : Int)] w fun e w' => e = .returned (.string (dotAt s p)) /\ Grow w w' := by
 have e2 : (s.size : Int) - (c : Int) = (p : Int) := by omega
 have e3 : ¬ (c : Int) + 1 - (s.size : Int) > 0 := by omega
 have e4 : p <= s.size := by omega
 have HR : Hid (dotAt s p = s.extract 0 p ++ ⟨#[46]⟩ ++ s.extract p s.size) := rfl
 clear hp
 generalize dotAt s p = R at *
 go_enter Tryz.func167, Tryz.ntmps167
 go_wp2
 go_quiet (fail)
 go_wp2
 go_ret
 exact ⟨ret_str HR.out.symm, grow_dq _ _⟩
end Go.Proofs.YtpfiejmhnkcjbaaGreatDoor.D6
namespace Go.Proofs.YtpfiejmhnkcjbaaGreatDoor.D6
open Go.RowKit
set_option linter.unusedVariables false
theorem zN : (Tryz.prog.info? 102).map (fun i => i.zero.map (·.cells)) = some (some (List.toArray [.bool false, .int .u64 0, .int .u64 0, .int .i64 0])) := by kernel_rfl
def dotN (D : ByteArray) (s : Nat) : ByteArray := if D.size <= s then dotAt (zeros (s + 1 - D.size) ++ D) 1 else dotAt D (D.size - s)
theorem dotted_any (D : ByteArray) (s : Nat) (h0 : 0 < D.size) (h1 : D.size <= 20) (s0 : 0 < s) (s1 : s <= 18) (w : World) :
 Calls Tryz.prog 167 #[.string D, .int .i64 (s : Int)] w fun e w' => e = .returned (.string (dotN D s)) /\ Grow w w' := by
 unfold dotN
 split
 . exact dotted_short D s (s + 1 - D.size) h0 h1 s0 s1 (by omega) (by omega) w
 . exact dotted_long D s (D.size - s) h1 s0 (by omega) (by omega) w
theorem dotAt_size (t : ByteArray) (p : Nat) (hp : p <= t.size) : (dotAt t p).size = t.size + 1 := by
 unfold dotAt
 rw [ByteArray.size_append, ByteArray.size_append, ByteArray.size_extract, ByteArray.size_extract]
 have : (⟨#[46]⟩ : ByteArray).size = 1 := rfl
 omega
theorem dotN_size (D : ByteArray) (s : Nat) (h0 : 0 < D.size) (h1 : D.size <= 20) (s1 : s <= 18) : (dotN D s).size <= 40 := by
 unfold dotN
 split
 . rw [dotAt_size _ _ (by rw [ByteArray.size_append, zeros_size]; omega), ByteArray.size_append, zeros_size]; omega
 . rw [dotAt_size _ _ (by omega)]; omega
def txt (n : Int) (s : Nat) (D : ByteArray) : ByteArray := if n < 0 then ⟨#[45]⟩ ++ (if s = 0 then D else dotN D s) else (if s = 0 then D else dotN D s)
end Go.Proofs.YtpfiejmhnkcjbaaGreatDoor.D6
namespace Go.Proofs.YtpfiejmhnkcjbaaGreatDoor.D6
set_option maxRecDepth 8000
open Go.RowKit
set_option linter.unusedVariables false
theorem zR : (Tryz.prog.info? 75).map (fun i => i.zero.map (·.cells)) = some (some (List.toArray [.int .u64 0, .int .u64 0, .bool false])) := by kernel_rfl
theorem tenR (h l m h' l' : Nat) (b : Bool) (a : Wd h l m) (s : Wd h' l' (m / 10)) (r : Nat) (hr : m % 10 = r) (w : World) :
 Calls Tryz.prog 84 #[.agg #[.int .u64 (h : Int), .int .u64 (l : Int), .bool b]] w fun e w' => e = .returned (.tuple #[.agg #[.int .u64 (h' : Int), .int .u64 (l' : Int), .bool b], .int .u64 (r : Int)]) /\ Grow w w' := by
 obtain ⟨t1, t2, t3⟩ := tenth_split a
 have eh : h / 10 = h' := by have := s.eq; have := s.l1; omega
 have el : ((h % 10) * 18446744073709551616 + l) / 10 = l' := by have := s.eq; have := s.l1; omega
 obtain ⟨g, hg⟩ : ∃ g, h % 10 = g := ⟨_, rfl⟩
 have k := fun W => div_ten g l (by omega) a.l1 W
 rw [<- hg, el, t3, hr, hg] at k
 have HK : Hid (∀ W, Calls Tryz.prog 112 #[.int .u64 (g : Int), .int .u64 (l : Int), .int .u64 10] W fun e w' => e = .returned (.tuple #[.int .u64 (l' : Int), .int .u64 (r : Int)]) /\ Grow W w') := k
 have f1 : (h : Int) / 10 = (h' : Int) := by omega
 have f2 : (h : Int) % 10 = (g : Int) := by omega
 have hb : h < 18446744073709551616 := a.h1
 clear k t1 t2 t3 eh el hg a s hr
 go_enter Tryz.func84, Tryz.ntmps84
 go_wp2
 go_quiet (fail)
 go_wp2_with fail
 obtain ⟨w1, HG1, HB1⟩ : ∃ w1, Hid (Grow w w1 /\ Blk w1 w.heap.size 75 [.int .u64 (h : Int), .int .u64 (l : Int), .bool b] /\ Blk w1 (w.heap.size + 1) 75 [.int .u64 0, .int .u64 0, .bool false]) /\ ((w.alloc (Obj.cells #[.int .u64 (h : Int), .int .u64 (l : Int), .bool b] 75)).alloc (Obj.cells #[.int .u64 0, .int .u64 0, .bool false] 75)).drewN nq = w1 :=
  ⟨_, ⟨(((Grow.refl _).alloc _).alloc _).trans (grow_dq _ _), (Blk.alloc (blk_at rfl) _).grow (grow_dq _ _), (blk_at (by simp)).grow (grow_dq _ _)⟩, rfl⟩
 rw [HB1]
 refine (HK.out _).mono ?_
 rintro e w2 ⟨rfl, hg⟩
 have HB2 : Hid (Blk w2 (w.heap.size + 1) 75 [.int .u64 0, .int .u64 0, .bool false]) := HG1.out.2.2.grow hg
 have HG2 : Hid (Grow w w2) := HG1.out.1.trans hg
 have c2 : w2.cell? ⟨w.heap.size, 2, none⟩ = some (.bool b) := (HG1.out.2.1.grow hg).cell 2
 clear HB1 HG1 HK hg
 go_wp2_with (refine st_all rfl 75 (.tmp 2) (.tmp 24) rfl (w.heap.size + 1) 75 [.int .u64 0, .int .u64 0, .bool false] [.int .u64 (h' : Int), .int .u64 (l' : Int), .bool b] rfl rfl HB2.out rfl sR (ones rfl) ?_)
 intro w3 b3 g3
 have HB3 : Hid (Blk w3 (w.heap.size + 1) 75 [.int .u64 (h' : Int), .int .u64 (l' : Int), .bool b]) := b3
 have HG3 : Hid (Grow w w3) := Below.grown HG2.out g3 HG2.out.size (by intro k hk; injection hk with hk; omega)
 clear b3 g3 c2
 go_wp2
 exact bodyPost_ret (res_two rfl _ (w.heap.size + 1) 75 _ _ rfl HB3.out Tryz.underlying75 rfl sR) rfl ⟨rfl, HG3.out⟩
end Go.Proofs.YtpfiejmhnkcjbaaGreatDoor.D6
namespace Go.Proofs.YtpfiejmhnkcjbaaGreatDoor.D6
set_option maxHeartbeats 400000
set_option maxRecDepth 8000
open Go.RowKit
set_option linter.unusedVariables false
theorem st_pre {P : Program} {ops : Array Oper} {Q : Exit -> Act -> World -> Prop} {dst} {ty t : TypeId} {p} {af} {rest : List Oper} {a : Act} {w : World} (x y : Operand)
 (h : wpList P ops Q ({ dst := dst, op := .store ty x y, type := t, pos := p, after := af, guard := none } :: rest) a w) :
 wpList P ops Q ({ dst := dst, op := .store ty x y, type := t, pos := p, after := af, guard := none } :: rest) a w := h
theorem conv_pos (l : Nat) (hl : l <= 9223372036854775807) : wrap64 (l : Int) = (l : Int) := by
 unfold wrap64
 omega
theorem conv_less (l : Nat) (h0 : 0 < l) (hl : l <= 9223372036854775808) : -wrap64 ((l : Int) - 1) - 1 = -(l : Int) := by
 unfold wrap64
 omega
theorem leastR_zero (b : Bool) (s : Int) (w : World) :
 Calls Tryz.prog 59 #[.agg #[.int .u64 0, .int .u64 0, .bool b], .int .i64 s] w fun e w' => e = .returned (.tuple #[.agg #[.int .i64 3, .int .i64 0, .int .i64 0, .string ⟨#[]⟩, .slice none 0 0, .slice none 0 0], .int .i64 0]) /\ Grow w w' := by
 cases b
 all_goals
  go_enter Tryz.func59, Tryz.ntmps59
  go_wp2
  obtain ⟨w1, HW1⟩ : ∃ w1, w1 = w := ⟨_, rfl⟩
  go_loopw [1] (fun q wr => q = .int .i64 0 /\ Hid (∃ b, wr = ((w.alloc (Obj.cells #[.int .u64 0, .int .u64 0, .bool b] 75)).alloc (Obj.cells #[.int .i64 0, .int .i64 0, .int .i64 0, .string ⟨#[]⟩, .slice none 0 0, .slice none 0 0] 41)))) (fun _ _ => 0)
  case atStart => exact ⟨rfl, _, rfl⟩
  case round =>
   obtain ⟨rfl, HWr⟩ := hrel
   obtain ⟨b, hb⟩ := HWr.out
   have HX : Hid (Blk wr (w.heap.size + 1) 41 [.int .i64 0, .int .i64 0, .int .i64 0, .string ⟨#[]⟩, .slice none 0 0, .slice none 0 0] /\ Grow w wr) := by rw [hb]; exact ⟨blk_at (by simp), ((Grow.refl _).alloc _).alloc _⟩
   have yB : Blk wr w.heap.size 75 [.int .u64 0, .int .u64 0, .bool b] := by rw [hb]; exact Blk.alloc (blk_at rfl) _
   clear hb HWr HW1
   have y0 : wr.cell? ⟨w.heap.size, 0, none⟩ = some (.int .u64 0) := (yB).cell 0
   have y1 : wr.cell? ⟨w.heap.size, 1, none⟩ = some (.int .u64 0) := (yB).cell 1
   have y2 : wr.cell? ⟨w.heap.size, 2, none⟩ = some (.bool b) := (yB).cell 2
   clear yB
   obtain ⟨x, hx⟩ : ∃ x, IntKind.u64.wrap (-1) = x := ⟨_, rfl⟩
   obtain ⟨y, hy⟩ : ∃ y, wrap64 x = y := ⟨_, rfl⟩
   cases b
   all_goals
    go_wp2_with ((with_reducible refine st_pre (.tmp 4) (.tmp 72) ?_); refine st_all rfl 41 (.tmp 4) (.tmp 72) rfl (w.heap.size + 1) 41 [.int .i64 0, .int .i64 0, .int .i64 0, .string ⟨#[]⟩, .slice none 0 0, .slice none 0 0] [.int .i64 3, .int .i64 0, .int .i64 0, .string ⟨#[]⟩, .slice none 0 0, .slice none 0 0] rfl rfl HX.out.1 rfl sV (ones rfl) ?_)
    intro w9 b9 g9
    have HG9 : Hid (Grow w w9) := Below.grown HX.out.2 g9 HX.out.2.size (by intro e he; injection he with he; omega)
    have HB9 : Hid (Blk w9 (w.heap.size + 1) 41 [.int .i64 3, .int .i64 0, .int .i64 0, .string ⟨#[]⟩, .slice none 0 0, .slice none 0 0]) := b9
    clear b9 g9
    go_wp2
    exact bodyPost_ret (res_two rfl _ (w.heap.size + 1) 41 _ _ rfl HB9.out Tryz.underlying41 rfl sV) rfl ⟨rfl, HG9.out⟩
end Go.Proofs.YtpfiejmhnkcjbaaGreatDoor.D6
namespace Go.Proofs.YtpfiejmhnkcjbaaGreatDoor.D6
set_option maxRecDepth 20000
open Go.RowKit Go.Sort
set_option linter.unusedVariables false
def Ptab (w : World) : Prop := Lib.TabIs Tryz.prog w "internal/strconv.uint64pow10" .u64 Lib.pow10Tab
theorem smallU (i : Nat) (h : i < 100) (w : World) : Calls Tryz.prog 182 #[.int .i64 (i : Int)] w fun e w' => e = .returned (.string ⟨(Lib.decDigits i).toArray⟩) /\ w' = w := Any.internal_strconv_small Tryz.lays283 i h w
theorem digitsU (u : Nat) (h1 : 1 <= u) (h2 : u < 18446744073709551616) (w : World) (ht : Ptab w) : Calls Tryz.prog 183 #[.int .u64 (u : Int)] w fun e w' => e = .returned (.int .i64 (Lib.nDigits u : Int)) /\ w' = w := Any.internal_strconv_numDigits Tryz.laysM284 u h1 h2 w ht
theorem zeros_row (w : World) (T : TypeId) (nd : Nat) (hs : nd <= 24) : Holds (fun (b : UInt8) => Value.int .u8 (b.toNat : Int)) (w.alloc (.cells Lib.zeros24 T)) w.heap.size 0 (Array.replicate nd (0 : UInt8)) := fun j hj => by
 have hj' : j < nd := by simpa using hj
 refine ⟨?_, World.frozen?_alloc_new _ _ _ _⟩
 rw [Nat.zero_add, World.cell?_alloc_new, Lib.zeros24_at _ (by omega), getElem!_pos _ j hj]
 simp
theorem row_left (w : World) (o : Obj) (dk : Array UInt8) (k : Nat) : Grow w ((putRow (fun (b : UInt8) => Value.int .u8 (b.toNat : Int)) (w.alloc o) w.heap.size 0 dk).drewN k) := by
 rw [alloc_eq_grow]
 obtain ⟨os', _, e⟩ := putRow_grow_new (fun (b : UInt8) => Value.int .u8 (b.toNat : Int)) w #[o] w.heap.size 0 dk (Nat.le_refl _)
 rw [e]
 exact Lib.below_grow w.heap.size w (Nat.le_refl _) k os'
theorem fmtI (u : Nat) (hu : u < 18446744073709551616) (w : World) (ht : Ptab w) : Calls Tryz.prog 177 #[.int .u64 (u : Int), .int .i64 10] w fun e w' => e = .returned (.string ⟨(Lib.decDigits u).toArray⟩) /\ Grow w w' := by
 by_cases hs : u < 100
 . have K := Lib.hid (fun W => smallU u hs W)
   go_enter Tryz.func177, Tryz.ntmps177
   go_wp2_with fail
   refine (K.out _).mono ?_
   rintro e w' ⟨rfl, rfl⟩
   go_wp2
   go_ret
   exact ⟨rfl, Grow.refl _⟩
 . have hu1 : 1 <= u := by omega
   have hnd : Lib.nDigits u <= 20 := by have := Lib.numDigits_eq u hu1 hu; split at this <;> omega
   have hal : Tryz.prog.arrayLen 188 = 24 := by simp [Program.arrayLen, Tryz.underlying188]
   have hsl : ∀ W, (Instr.sliceAt 188 (.pointer (some ⟨w.heap.size, 0, none⟩)) none (some (.int .i64 (Lib.nDigits u : Int))) none).run Tryz.prog W = .ok (.slice (some ⟨w.heap.size, 0, none⟩) (Lib.nDigits u) 24) W := fun W => by
    rw [run_sliceAt_array_h W 188 ⟨w.heap.size, 0, none⟩ (by simp [Program.arrayLen, Program.elem, Tryz.underlying188]) .i64 (Lib.nDigits u : Int) (by omega) (by rw [hal]; omega)]
    go_simp
   have hH := zeros_row w 188 (Lib.nDigits u) (by omega)
   have hfmt : Calls Tryz.prog 184 _ _ _ := Any.internal_strconv_formatBase10 Tryz.lays285 w.heap.size 0 24 u (Array.replicate (Lib.nDigits u) 0) (w.alloc (.cells Lib.zeros24 188)) hH (by rw [Array.size_replicate]; exact Lib.lt_pow_nDigits u) hu (by rw [Array.size_replicate]; omega)
   rw [Array.size_replicate] at hfmt
   have HH := Lib.hid hH
   have K := Lib.hid (digitsU u hu1 hu _ (Lib.tabIs_alloc ht (.cells Lib.zeros24 188)))
   clear hH hal
   go_enter Tryz.func177, Tryz.ntmps177
   go_wp2_with fail
   refine (K.out).mono ?_
   rintro e w' ⟨rfl, rfl⟩
   go_wp2_with fail
   refine hfmt.mono ?_
   rintro e w' ⟨rfl, k, v', dk, rfl, hF⟩
   have hcv : (convert 34 9 (.slice (some ⟨w.heap.size, 0, none⟩) (Lib.nDigits u) 24)).run Tryz.prog ((putRow (fun (b : UInt8) => Value.int .u8 (b.toNat : Int)) (w.alloc (.cells Lib.zeros24 188)) w.heap.size 0 dk).drewN k) = .ok (.string ⟨(Lib.decDigits u).toArray⟩) ((putRow (fun (b : UInt8) => Value.int .u8 (b.toNat : Int)) (w.alloc (.cells Lib.zeros24 188)) w.heap.size 0 dk).drewN k) := by
    have h := run_convert_bytes_back (P := Tryz.prog) ((putRow (fun (b : UInt8) => Value.int .u8 (b.toNat : Int)) (w.alloc (.cells Lib.zeros24 188)) w.heap.size 0 dk).drewN k) 34 9 5 ⟨w.heap.size, 0, none⟩ 24 (Lib.decDigits u) Tryz.underlying34 Tryz.underlying5 Tryz.underlying9 (fun j hj => by
     rw [Lib.row_is_numeral hF j hj, Lib.add_plain, World.cell?_drewN]
     exact cell?_putRow (fun (b : UInt8) => Value.int .u8 (b.toNat : Int)) _ w.heap.size 0 _ dk HH.out (by rw [hF.size, Array.size_replicate]) j (by rw [hF.size]; rw [Lib.decDigits_length] at hj; exact hj))
    rw [Lib.decDigits_length] at h
    exact h
   go_wp2
   go_ret
   exact ⟨rfl, row_left w _ dk k⟩
theorem fmtU (u : Nat) (hu : u < 18446744073709551616) (w : World) (ht : Ptab w) : Calls Tryz.prog 166 #[.int .u64 (u : Int), .int .i64 10] w fun e w' => e = .returned (.string ⟨(Lib.decDigits u).toArray⟩) /\ Grow w w' := by
 have K := Lib.hid (fmtI u hu w ht)
 go_enter Tryz.func166, Tryz.ntmps166
 go_wp2_with fail
 refine (K.out).mono ?_
 rintro e w' ⟨rfl, g⟩
 have G : Hid (Grow w w') := g
 clear g
 go_wp2
 go_ret
 exact ⟨rfl, G.out⟩
end Go.Proofs.YtpfiejmhnkcjbaaGreatDoor.D6
