/-
   ·  ·  · 
-/
import Derived.Test.YtpfiejmhnkcjbaaGreatDoorProg
import Derived.Test.YtpfiejmhnkcjbaaGreatDoorRows
import Derived.WalkKit
import Derived.WalkSpells
import Derived.StillTactics
import Derived.Laws.Pointers
import Derived.RowKit3
import Derived.Below
import Derived.Deep.QuietTactic
import Derived.BigQuiet
import Derived.WalkSmall
import Derived.OpenShut
import Derived.Laws.Cover1
import Derived.Laws.Strings
import Derived.Deep.Matrix
import Derived.Deep.Slices
import Derived.SizedLaws
import Derived.ProofKit
namespace Go.Proofs.YtpfiejmhnkcjbaaGreatDoor.Lx
set_option linter.unusedVariables false
set_option linter.unusedSimpArgs false
def isBl (c : Nat) : Bool := c == 32 || c == 9 || c == 10 || c == 13
def isLt (c : Nat) : Bool := (decide (97 <= c) && decide (c <= 122)) || (decide (65 <= c) && decide (c <= 90)) || c == 95
def isDg (c : Nat) : Bool := decide (48 <= c) && decide (c <= 57)
def isNm (c : Nat) : Bool := isLt c || isDg c
def sml (l : List Nat) : List Nat := l.map fun c => if 65 <= c /\ c <= 90 then c + 32 else c
def words : List (List Nat) := [[115, 101, 108, 101, 99, 116], [118, 97, 108, 117, 101], [102, 114, 111, 109], [97, 115], [119, 104, 101, 114, 101], [111, 114, 100, 101, 114], [98, 121], [100, 101, 115, 99], [108, 105, 109, 105, 116], [105, 110, 115, 101, 114, 116], [105, 110, 116, 111], [117, 112, 100, 97, 116, 101], [115, 101, 116], [100, 101, 108, 101, 116, 101], [99, 114, 101, 97, 116, 101], [100, 114, 111, 112], [116, 97, 98, 108, 101], [105, 110, 100, 101, 120], [111, 110], [97, 110, 100], [111, 114], [110, 111, 116], [105, 115], [110, 117, 108, 108], [109, 105, 115, 115, 105, 110, 103], [116, 114, 117, 101], [102, 97, 108, 115, 101], [104, 105, 115, 116, 111, 114, 121], [109, 101, 116, 97]]
def isW (l : List Nat) : Bool := words.contains l
def signs : List (List Nat) := [[60, 61], [62, 61], [33, 61], [60, 62], [124, 124], [60], [62], [61], [43], [45], [42], [40], [41], [91], [93], [123], [125], [44], [46], [58], [59]]
def sgn (r : List Nat) : List Nat := (signs.find? (fun s => s.isPrefixOf r)).getD []
def told (s : List Nat) : List Nat := if s = [60, 62] then [33, 61] else s
inductive St where
 | skip (n : Nat)
 | tok (k : Nat) (t : List Nat) (n : Nat)
 | bad
def txE : List Nat -> Option Nat
 | [] => none
 | [c] => if c = 39 then some 1 else none
 | c :: d :: q => if c = 39 then (if d = 39 then (txE q).map (· + 2) else some 1) else (txE (d :: q)).map (· + 1)
def nuE (r : List Nat) : Nat × Bool :=
 match r.dropWhile isDg with
 | p :: d :: q => if p = 46 /\ isDg d = true then ((r.takeWhile isDg).length + 1 + ((d :: q).takeWhile isDg).length, true) else ((r.takeWhile isDg).length, false)
 | _ => ((r.takeWhile isDg).length, false)
def folw (r : List Nat) : Bool := match r with
 | c :: _ => isLt c || c == 46
 | [] => false
def step (tx nu : List Nat -> Bool) (r : List Nat) : St :=
 match r with
 | [] => .bad
 | c :: q =>
   if isBl c then .skip 1
   else if c = 45 /\ q.head? = some 45 then .skip (r.takeWhile (· != 10)).length
   else if isLt c then
    (if isW (sml (r.takeWhile isNm)) then .tok 2 (sml (r.takeWhile isNm)) (r.takeWhile isNm).length else .tok 1 (r.takeWhile isNm) (r.takeWhile isNm).length)
   else if c = 34 then
    (if q.length = (q.takeWhile (· != 34)).length ∨ (q.takeWhile (· != 34)).length < 1 ∨ 40 < (q.takeWhile (· != 34)).length then .bad else .tok 1 (q.takeWhile (· != 34)) ((q.takeWhile (· != 34)).length + 2))
   else if isDg c then
    (if folw (r.drop (nuE r).1) = true ∨ nu (r.take (nuE r).1) = false then .bad else .tok (if (nuE r).2 then 4 else 3) (r.take (nuE r).1) (nuE r).1)
   else if c = 39 then
    (match txE q with
    | none => .bad
    | some n => if tx (r.take (n + 1)) then .tok 5 (r.take (n + 1)) (n + 1) else .bad)
   else if c = 63 then .tok 7 [63] 1
   else (if sgn r = [] then .bad else .tok 6 (told (sgn r)) (sgn r).length)
abbrev Tk := Nat × List Nat × Nat
def lexF (tx nu : List Nat -> Bool) : Nat -> List Nat -> Nat -> List Tk × Option Nat
 | 0, _, p => ([(8, [], p)], none)
 | f + 1, r, p => if r = [] then ([(8, [], p)], none) else
   match step tx nu r with
   | .skip n => lexF tx nu f (r.drop n) (p + n)
   | .tok k t n => ((k, t, p) :: (lexF tx nu f (r.drop n) (p + n)).1, (lexF tx nu f (r.drop n) (p + n)).2)
   | .bad => ([], some p)
def lexR (tx nu : List Nat -> Bool) (r : List Nat) (p : Nat) : List Tk × Option Nat := lexF tx nu r.length r p
theorem txE_le : ∀ (q : List Nat) (n : Nat), txE q = some n -> 1 <= n /\ n <= q.length
 | [], n, h => by cases h
 | [c], n, h => by
   simp only [txE] at h
   split at h
   . injection h with h; subst h; simp
   . cases h
 | c :: d :: q, n, h => by
   simp only [txE] at h
   split at h
   . split at h
     . cases hq : txE q with
       | none => rw [hq] at h; cases h
       | some m =>
         rw [hq] at h
         simp only [Option.map_some, Option.some.injEq] at h
         have := txE_le q m hq
         simp only [List.length_cons]
         omega
     . injection h with h; subst h; simp
   . cases hq : txE (d :: q) with
     | none => rw [hq] at h; cases h
     | some m =>
       rw [hq] at h
       simp only [Option.map_some, Option.some.injEq] at h
       have := txE_le (d :: q) m hq
       simp only [List.length_cons] at this ⊢
       omega
theorem tw_le (f : Nat -> Bool) (r : List Nat) : (r.takeWhile f).length <= r.length := (List.takeWhile_sublist f).length_le
theorem tw_dw (f : Nat -> Bool) (r : List Nat) : (r.takeWhile f).length + (r.dropWhile f).length = r.length := by
 have := congrArg List.length (List.takeWhile_append_dropWhile (p := f) (l := r))
 rw [List.length_append] at this
 exact this
theorem tw_pos {f : Nat -> Bool} {c : Nat} {q : List Nat} (h : f c = true) : 1 <= ((c :: q).takeWhile f).length := by
 rw [List.takeWhile_cons, if_pos h]; simp
theorem nuE_le {c : Nat} {q : List Nat} (h : isDg c = true) : 1 <= (nuE (c :: q)).1 /\ (nuE (c :: q)).1 <= (c :: q).length := by
 have h1 := tw_pos (q := q) h
 have h2 := tw_dw isDg (c :: q)
 unfold nuE
 split
 . rename_i p d q' e
   rw [e] at h2
   have h3 := tw_le isDg (d :: q')
   split
   . simp only [List.length_cons] at h2 h3 ⊢
     omega
   . simp only [List.length_cons] at h1 h2 ⊢
     omega
 . exact ⟨h1, tw_le _ _⟩
theorem sgn_pre (r : List Nat) : sgn r <+: r := by
 unfold sgn
 cases h : signs.find? (fun s => s.isPrefixOf r) with
 | none => exact List.nil_prefix
 | some s =>
   have := List.find?_some h
   exact List.isPrefixOf_iff_prefix.1 this
theorem step_le {tx nu : List Nat -> Bool} {r : List Nat} (hr : r ≠ []) : (∀ n, step tx nu r = .skip n -> 1 <= n /\ n <= r.length) /\ (∀ k t n, step tx nu r = .tok k t n -> 1 <= n /\ n <= r.length) := by
 cases r with
 | nil => exact absurd rfl hr
 | cons c q =>
   have hl : 1 <= (c :: q).length := by simp
   unfold step
   simp only
   split
   . exact ⟨fun n h => by injection h with h; subst h; exact ⟨Nat.le_refl _, hl⟩, fun k t n h => by cases h⟩
   split
   . rename_i h
     refine ⟨fun n h' => ?_, fun k t n h => by cases h⟩
     injection h' with h'
     subst h'
     exact ⟨tw_pos (by rw [h.1]; decide), tw_le _ _⟩
   split
   . rename_i h
     have h1 : 1 <= ((c :: q).takeWhile isNm).length := tw_pos (by unfold isNm; rw [h]; rfl)
     have h2 := tw_le isNm (c :: q)
     split
     . exact ⟨fun n h => (by cases h), fun k t n h => by injection h with _ _ h; subst h; exact ⟨h1, h2⟩⟩
     . exact ⟨fun n h => (by cases h), fun k t n h => by injection h with _ _ h; subst h; exact ⟨h1, h2⟩⟩
   split
   . have h2 := tw_le (· != 34) q
     split
     . exact ⟨fun n h => (by cases h), fun k t n h => by cases h⟩
     . rename_i hn
       exact ⟨fun n h => (by cases h), fun k t n h => by
        injection h with _ _ h
        subst h
        have hq2 : (q.takeWhile (· != 34)).length <= q.length := h2
        have : (q.takeWhile (· != 34)).length ≠ q.length := fun e => hn (.inl e.symm)
        simp only [List.length_cons]
        omega⟩
   split
   . rename_i h
     have h1 := nuE_le (q := q) h
     split
     . exact ⟨fun n h => (by cases h), fun k t n h => by cases h⟩
     . exact ⟨fun n h => (by cases h), fun k t n h => by injection h with _ _ h; subst h; exact h1⟩
   split
   . split
     . exact ⟨fun n h => (by cases h), fun k t n h => by cases h⟩
     . rename_i m hm
       have h1 := txE_le q m hm
       split
       . exact ⟨fun n h => (by cases h), fun k t n h => by injection h with _ _ h; subst h; simp only [List.length_cons]; omega⟩
       . exact ⟨fun n h => (by cases h), fun k t n h => by cases h⟩
   split
   . exact ⟨fun n h => (by cases h), fun k t n h => by injection h with _ _ h; subst h; exact ⟨Nat.le_refl _, hl⟩⟩
   split
   . exact ⟨fun n h => (by cases h), fun k t n h => by cases h⟩
   . rename_i hs
     refine ⟨fun n h => (by cases h), fun k t n h => ?_⟩
     injection h with _ _ h
     subst h
     refine ⟨?_, (sgn_pre _).length_le⟩
     cases e : sgn (c :: q) with
     | nil => exact absurd e hs
     | cons x y => simp
theorem lexF_more (tx nu : List Nat -> Bool) : ∀ (f : Nat) (r : List Nat) (p : Nat), r.length <= f -> lexF tx nu f r p = lexF tx nu r.length r p := by
 intro f
 induction f using Nat.strongRecOn with
 | ind f ih =>
   intro r p h
   cases hr : r with
   | nil => cases f <;> simp [lexF]
   | cons c q =>
     rw [<- hr]
     have hne : r ≠ [] := by rw [hr]; simp
     obtain ⟨m, hm⟩ : ∃ m, r.length = m + 1 := ⟨q.length, by rw [hr]; simp⟩
     obtain ⟨g, rfl⟩ : ∃ g, f = g + 1 := ⟨f - 1, by omega⟩
     obtain ⟨s1, s2⟩ := step_le (tx := tx) (nu := nu) hne
     rw [hm]
     simp only [lexF, if_neg hne]
     have key : ∀ n, 1 <= n -> n <= r.length -> lexF tx nu g (r.drop n) (p + n) = lexF tx nu m (r.drop n) (p + n) := fun n h1 h2 => by
      have hl : (r.drop n).length <= m := by rw [List.length_drop]; omega
      rw [ih g (by omega) _ _ (by omega)]
      by_cases hg : m < g + 1
      . rw [ih m hg _ _ hl]
      . omega
     cases hs : step tx nu r with
     | skip n =>
       obtain ⟨h1, h2⟩ := s1 n hs
       exact key n h1 h2
     | tok k t n =>
       obtain ⟨h1, h2⟩ := s2 k t n hs
       simp only [key n h1 h2]
     | bad => rfl
theorem lexR_nil (tx nu : List Nat -> Bool) (p : Nat) : lexR tx nu [] p = ([(8, [], p)], none) := rfl
theorem lexR_step (tx nu : List Nat -> Bool) {r : List Nat} (hr : r ≠ []) (p : Nat) : lexR tx nu r p = match step tx nu r with
 | .skip n => lexR tx nu (r.drop n) (p + n)
 | .tok k t n => ((k, t, p) :: (lexR tx nu (r.drop n) (p + n)).1, (lexR tx nu (r.drop n) (p + n)).2)
 | .bad => ([], some p) := by
 obtain ⟨m, hm⟩ : ∃ m, r.length = m + 1 := ⟨r.length - 1, by have := List.length_pos_iff.2 hr; omega⟩
 obtain ⟨s1, s2⟩ := step_le (tx := tx) (nu := nu) hr
 unfold lexR
 rw [hm]
 simp only [lexF, if_neg hr]
 have key : ∀ n, 1 <= n -> n <= r.length -> lexF tx nu m (r.drop n) (p + n) = lexF tx nu (r.drop n).length (r.drop n) (p + n) := fun n h1 h2 => lexF_more tx nu m _ _ (by rw [List.length_drop]; omega)
 cases hs : step tx nu r with
 | skip n =>
   obtain ⟨h1, h2⟩ := s1 n hs
   exact key n h1 h2
 | tok k t n =>
   obtain ⟨h1, h2⟩ := s2 k t n hs
   simp only [key n h1 h2]
 | bad => rfl
end Go.Proofs.YtpfiejmhnkcjbaaGreatDoor.Lx
namespace Go.Proofs.YtpfiejmhnkcjbaaGreatDoor.Lx
set_option linter.unusedVariables false
set_option linter.unusedSimpArgs false
theorem lexR_skip {tx nu : List Nat -> Bool} {r : List Nat} {p n : Nat} (hr : r ≠ []) (h : step tx nu r = .skip n) : lexR tx nu r p = lexR tx nu (r.drop n) (p + n) := by
 rw [lexR_step tx nu hr p, h]
end Go.Proofs.YtpfiejmhnkcjbaaGreatDoor.Lx
namespace Go.Proofs.YtpfiejmhnkcjbaaGreatDoor.Lx
set_option linter.unusedVariables false
set_option linter.unusedSimpArgs false
def inC (c0 c1 b : Nat) : Bool := decide (b < 128) && ((if b < 64 then c0 else c1) / 2 ^ (b % 64) % 2 == 1)
def isS1 (c : Nat) : Bool := signs.contains [c]
def cBl : Nat := 4294977024
def cDg : Nat := 287948901175001088
def cLt : Nat := 576460745995190270
def cS0 : Nat := 8935281298679791616
def cS1 : Nat := 2882303762188206080
theorem inC_bl : ∀ b, b < 256 -> inC cBl 0 b = isBl b := by
 have h : ∀ b : Fin 256, inC cBl 0 b.val = isBl b.val := by decide +kernel
 exact fun b hb => h ⟨b, hb⟩
theorem inC_dg : ∀ b, b < 256 -> inC cDg 0 b = isDg b := by
 have h : ∀ b : Fin 256, inC cDg 0 b.val = isDg b.val := by decide +kernel
 exact fun b hb => h ⟨b, hb⟩
theorem inC_lt : ∀ b, b < 256 -> inC 0 cLt b = isLt b := by
 have h : ∀ b : Fin 256, inC 0 cLt b.val = isLt b.val := by decide +kernel
 exact fun b hb => h ⟨b, hb⟩
theorem inC_nm : ∀ b, b < 256 -> inC cDg cLt b = isNm b := by
 have h : ∀ b : Fin 256, inC cDg cLt b.val = isNm b.val := by decide +kernel
 exact fun b hb => h ⟨b, hb⟩
theorem inC_sg : ∀ b, b < 256 -> inC cS0 cS1 b = isS1 b := by
 have h : ∀ b : Fin 256, inC cS0 cS1 b.val = isS1 b.val := by decide +kernel
 exact fun b hb => h ⟨b, hb⟩
def Skp (l : List Nat) (n : Nat) : Prop := n <= l.length /\ ∀ tx nu p, lexR tx nu l p = lexR tx nu (l.drop n) (p + n)
theorem Skp.zero (l : List Nat) : Skp l 0 := ⟨Nat.zero_le _, fun _ _ _ => rfl⟩
theorem Skp.add {l : List Nat} {n m : Nat} (h : Skp l n) (k : Skp (l.drop n) m) : Skp l (n + m) := by
 refine ⟨?_, fun tx nu p => ?_⟩
 . have h1 := h.1
   have h2 := k.1
   rw [List.length_drop] at h2
   omega
 . rw [h.2, k.2, List.drop_drop]
   congr 1
   omega
theorem skp_bl : ∀ l : List Nat, Skp l (l.takeWhile isBl).length
 | [] => Skp.zero _
 | c :: q => by
   rw [List.takeWhile_cons]
   split
   . rename_i h
     have h1 : Skp (c :: q) 1 := ⟨by simp, fun tx nu p => lexR_skip (by simp) (by unfold step; simp only [h, if_true])⟩
     have h2 := h1.add (m := (q.takeWhile isBl).length) (skp_bl q)
     rw [List.length_cons, Nat.add_comm]
     exact h2
   . exact Skp.zero _
theorem skp_rem {q : List Nat} : Skp (45 :: 45 :: q) ((45 :: 45 :: q).takeWhile (· != 10)).length := by
 refine ⟨tw_le _ _, fun tx nu p => lexR_skip (by simp) ?_⟩
 unfold step
 simp only [show isBl 45 = false from rfl, Bool.false_eq_true, if_false, List.head?_cons, and_self, if_true]
def NoSk (l : List Nat) : Prop := ∀ c q, l = c :: q -> isBl c = false /\ ¬ (c = 45 /\ q.head? = some 45)
theorem dw_hd {f : Nat -> Bool} : ∀ (l : List Nat) {c : Nat} {q : List Nat}, l.drop (l.takeWhile f).length = c :: q -> f c = false
 | [], c, q, h => by simp at h
 | x :: l, c, q, h => by
   rw [List.takeWhile_cons] at h
   split at h
   . rw [List.length_cons, List.drop_succ_cons] at h
     exact dw_hd l h
   . rename_i hx
     simp only [List.length_nil, List.drop_zero, List.cons.injEq] at h
     rw [<- h.1]
     simpa using hx
def ans : St -> Nat × List Nat × Nat
 | .tok k t n => (k, t, n)
 | _ => (0, [], 0)
theorem step_ns {tx nu : List Nat -> Bool} {l : List Nat} (hl : l ≠ []) (h : NoSk l) : ∀ n, step tx nu l ≠ .skip n := by
 cases l with
 | nil => exact absurd rfl hl
 | cons c q =>
   obtain ⟨h1, h2⟩ := h c q rfl
   intro n
   unfold step
   simp only [h1, Bool.false_eq_true, if_false, h2]
   split
   . split <;> simp
   split
   . split <;> simp
   split
   . split <;> simp
   split
   . split
     . simp
     . split <;> simp
   split
   . simp
   split <;> simp
end Go.Proofs.YtpfiejmhnkcjbaaGreatDoor.Lx
namespace Go.Proofs.YtpfiejmhnkcjbaaGreatDoor
open Go.RowKit
set_option linter.unusedVariables false
structure Hd where
 k : Int
 n : Int
 s : Int
 t : ByteArray
 ns : List ByteArray
inductive Fo where
 | nil : Fo
 | cons (h : Hd) (kids rest : Fo) : Fo
abbrev Vt := Hd × Fo
def Fo.list : Fo -> List Vt
 | .nil => []
 | .cons h k r => (h, k) :: r.list
def Fo.wt : Fo -> Nat
 | .nil => 0
 | .cons _ k r => 1 + k.wt + r.wt
def wt (p : Vt) : Nat := 1 + p.2.wt
theorem wt_mem {p : Vt} : ∀ {f : Fo}, p ∈ f.list -> wt p <= f.wt
 | .cons h k r, hp => by
   simp only [Fo.list, List.mem_cons] at hp
   simp only [Fo.wt]
   rcases hp with rfl | hp
   . simp only [wt]; omega
   . have := wt_mem hp; omega
theorem wt_kid {p q : Vt} (h : p ∈ q.2.list) : wt p < wt q := by
 have := wt_mem h
 show wt p < 1 + q.2.wt
 omega
structure Hok (h : Hd) : Prop where
 k0 : -9223372036854775808 <= h.k
 k1 : h.k < 9223372036854775808
 n0 : -9223372036854775808 <= h.n
 n1 : h.n < 9223372036854775808
 s0 : -9223372036854775808 <= h.s
 s1 : h.s < 9223372036854775808
 t1 : h.t.size <= 140737488355328
 c1 : h.ns.length <= 140737488355328
 e1 : ∀ x ∈ h.ns, x.size <= 140737488355328
def Wf : Fo -> Prop
 | .nil => True
 | .cons h k r => (Hok h /\ k.list.length <= 140737488355328 /\ Wf k) /\ Wf r
def WfV (p : Vt) : Prop := Hok p.1 /\ p.2.list.length <= 140737488355328 /\ Wf p.2
theorem wf_mem {p : Vt} : ∀ {f : Fo}, Wf f -> p ∈ f.list -> WfV p
 | .cons h k r, hw, hp => by
   simp only [Fo.list, List.mem_cons] at hp
   rcases hp with rfl | hp
   . exact hw.1
   . exact wf_mem hw.2 hp
theorem WfV.kid {p q : Vt} (h : WfV q) (hp : p ∈ q.2.list) : WfV p := wf_mem h.2.2 hp
def six (h : Hd) (na : Option Addr) (nc : Nat) (ka : Option Addr) (kl kc : Nat) : List Value :=
 [.int .i64 h.k, .int .i64 h.n, .int .i64 h.s, .string h.t, .slice na h.ns.length nc, .slice ka kl kc]
structure Nd (w : World) (b o : Nat) (h : Hd) (na : Option Addr) (nc : Nat) (ka : Option Addr) (kl kc : Nat) : Prop where
 c0 : w.cell? ⟨b, o, none⟩ = some (.int .i64 h.k)
 c1 : w.cell? ⟨b, o + 1, none⟩ = some (.int .i64 h.n)
 c2 : w.cell? ⟨b, o + 2, none⟩ = some (.int .i64 h.s)
 c3 : w.cell? ⟨b, o + 3, none⟩ = some (.string h.t)
 c4 : w.cell? ⟨b, o + 4, none⟩ = some (.slice na h.ns.length nc)
 c5 : w.cell? ⟨b, o + 5, none⟩ = some (.slice ka kl kc)
def Nms (w : World) (a : Option Addr) (ns : List ByteArray) : Prop := ns = [] ∨ ∃ b o, a = some ⟨b, o, none⟩ /\ ∀ i x, ns[i]? = some x -> w.cell? ⟨b, o + i, none⟩ = some (.string x)
structure Cap (a : Option Addr) (len cap : Nat) : Prop where
 le : len <= cap
 nil : a = none -> cap = 0
 max : cap <= 9223372036854775807
def At (w : World) : Fo -> Nat -> Nat -> Prop
 | .nil, _, _ => True
 | .cons h k r, b, o => (∃ na nc ka kc, Nd w b o h na nc ka k.list.length kc /\ Nms w na h.ns /\ Cap na h.ns.length nc /\ (k = .nil ∨ ∃ b' o', ka = some ⟨b', o', none⟩ /\ At w k b' o') /\ Cap ka k.list.length kc) /\ At w r b (o + 6)
def Slc (w : World) (a : Option Addr) (f : Fo) : Prop := f = .nil ∨ ∃ b o, a = some ⟨b, o, none⟩ /\ At w f b o
structure Vl (w : World) (p : Vt) (na : Option Addr) (nc : Nat) (ka : Option Addr) (kc : Nat) : Prop where
 nms : Nms w na p.1.ns
 nc : Cap na p.1.ns.length nc
 slc : Slc w ka p.2
 kc : Cap ka p.2.list.length kc
def NdV (w : World) (b o : Nat) (p : Vt) : Prop := ∃ na nc ka kc, Nd w b o p.1 na nc ka p.2.list.length kc /\ Vl w p na nc ka kc
theorem At.get {w : World} {b : Nat} {p : Vt} : ∀ {f : Fo} {o i : Nat}, At w f b o -> f.list[i]? = some p -> NdV w b (o + i * 6) p
 | .cons h k r, o, 0, ha, hi => by
   simp only [Fo.list, List.getElem?_cons_zero, Option.some.injEq] at hi
   subst hi
   obtain ⟨⟨na, nc, ka, kc, h1, h2, h3, h4, h5⟩, _⟩ := ha
   exact ⟨na, nc, ka, kc, by simpa using h1, h2, h3, h4, h5⟩
 | .cons h k r, o, i + 1, ha, hi => by
   simp only [Fo.list, List.getElem?_cons_succ] at hi
   have := At.get ha.2 hi
   rw [show o + 6 + i * 6 = o + (i + 1) * 6 by omega] at this
   exact this
theorem Slc.get {w : World} {a : Option Addr} {f : Fo} (h : Slc w a f) {i : Nat} {p : Vt} (hp : f.list[i]? = some p) : ∃ b o, a = some ⟨b, o, none⟩ /\ NdV w b (o + i * 6) p := by
 rcases h with rfl | ⟨b, o, e, ha⟩
 . simp [Fo.list] at hp
 . exact ⟨b, o, e, ha.get hp⟩
theorem cell_lt {w : World} {b o : Nat} {v : Value} (h : w.cell? ⟨b, o, none⟩ = some v) : b < w.heap.size := by
 apply Nat.lt_of_not_le; intro hle
 have : w.heap[b]? = none := Array.getElem?_eq_none hle
 simp [World.cell?, this] at h
theorem Nd.below {w w' : World} {b o : Nat} {h : Hd} {na ka : Option Addr} {nc kl kc : Nat} (g : Nd w b o h na nc ka kl kc) (hb : Below w.heap.size w w') : Nd w' b o h na nc ka kl kc :=
 ⟨(hb.cell (p := ⟨b, o, none⟩) (cell_lt g.c0)).trans g.c0, (hb.cell (p := ⟨b, o + 1, none⟩) (cell_lt g.c1)).trans g.c1, (hb.cell (p := ⟨b, o + 2, none⟩) (cell_lt g.c2)).trans g.c2,
  (hb.cell (p := ⟨b, o + 3, none⟩) (cell_lt g.c3)).trans g.c3, (hb.cell (p := ⟨b, o + 4, none⟩) (cell_lt g.c4)).trans g.c4, (hb.cell (p := ⟨b, o + 5, none⟩) (cell_lt g.c5)).trans g.c5⟩
theorem Nms.below {w w' : World} {a : Option Addr} {ns : List ByteArray} (h : Nms w a ns) (hb : Below w.heap.size w w') : Nms w' a ns := by
 rcases h with h | ⟨b, o, e, h⟩
 . exact .inl h
 . exact .inr ⟨b, o, e, fun i x hx => (hb.cell (p := ⟨b, o + i, none⟩) (cell_lt (h i x hx))).trans (h i x hx)⟩
theorem At.below {w w' : World} (hb : Below w.heap.size w w') : ∀ {f : Fo} {b o : Nat}, At w f b o -> At w' f b o
 | .nil, _, _, _ => trivial
 | .cons h k r, b, o, ha => by
   obtain ⟨⟨na, nc, ka, kc, h1, h2, h3, h4, h5⟩, h6⟩ := ha
   refine ⟨⟨na, nc, ka, kc, h1.below hb, h2.below hb, h3, ?_, h5⟩, At.below hb h6⟩
   rcases h4 with h4 | ⟨b', o', e, h4⟩
   . exact .inl h4
   . exact .inr ⟨b', o', e, At.below hb h4⟩
theorem Slc.below {w w' : World} {a : Option Addr} {f : Fo} (h : Slc w a f) (hb : Below w.heap.size w w') : Slc w' a f := by
 rcases h with h | ⟨b, o, e, h⟩
 . exact .inl h
 . exact .inr ⟨b, o, e, h.below hb⟩
theorem Vl.below {w w' : World} {p : Vt} {na ka : Option Addr} {nc kc : Nat} (h : Vl w p na nc ka kc) (hb : Below w.heap.size w w') : Vl w' p na nc ka kc :=
 ⟨h.nms.below hb, h.nc, h.slc.below hb, h.kc⟩
open Go.ChangeShapes Go.WideShapes Go.Deep
end Go.Proofs.YtpfiejmhnkcjbaaGreatDoor
