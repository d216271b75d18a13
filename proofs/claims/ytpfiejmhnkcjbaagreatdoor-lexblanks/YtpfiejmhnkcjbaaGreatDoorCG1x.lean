/-
  The program's lex, over lists of bytes: classes of bytes, blanks and remarks, what next answers. · Values as trees, and where they lie in memory. · The contracts of value's hasOnly, isFormed, isNamed. · The contracts of value's isFormed and isNamed.
-/
import Derived.Test.YtpfiejmhnkcjbaaGreatDoorCG0x
import Derived.Test.YtpfiejmhnkcjbaaGreatDoorRows
import Derived.WalkKit
import Derived.WalkSpells
import Derived.StillTactics
import Derived.Laws.Pointers
import Derived.RowKit3
import Derived.Below
import Derived.Deep.QuietTactic
import Derived.BigQuiet
import Derived.WalkSmall
import Derived.OpenShut
import Derived.Laws.Cover1
import Derived.Laws.Strings
import Derived.Deep.Matrix
import Derived.Deep.Slices
import Derived.SizedLaws
import Derived.ProofKit
namespace Go.Proofs.YtpfiejmhnkcjbaaGreatDoor.Lx
set_option linter.unusedVariables false
set_option linter.unusedSimpArgs false
/-- Is a byte in a class of two numbers? -/
def inC (c0 c1 b : Nat) : Bool := decide (b < 128) && ((if b < 64 then c0 else c1) / 2 ^ (b % 64) % 2 == 1)
def isS1 (c : Nat) : Bool := signs.contains [c]
def cBl : Nat := 4294977024
def cDg : Nat := 287948901175001088
def cLt : Nat := 576460745995190270
def cS0 : Nat := 8935281298679791616
def cS1 : Nat := 2882303762188206080
theorem inC_bl : ∀ b, b < 256 → inC cBl 0 b = isBl b := by
  have h : ∀ b : Fin 256, inC cBl 0 b.val = isBl b.val := by decide +kernel
  exact fun b hb => h ⟨b, hb⟩
theorem inC_dg : ∀ b, b < 256 → inC cDg 0 b = isDg b := by
  have h : ∀ b : Fin 256, inC cDg 0 b.val = isDg b.val := by decide +kernel
  exact fun b hb => h ⟨b, hb⟩
theorem inC_lt : ∀ b, b < 256 → inC 0 cLt b = isLt b := by
  have h : ∀ b : Fin 256, inC 0 cLt b.val = isLt b.val := by decide +kernel
  exact fun b hb => h ⟨b, hb⟩
theorem inC_nm : ∀ b, b < 256 → inC cDg cLt b = isNm b := by
  have h : ∀ b : Fin 256, inC cDg cLt b.val = isNm b.val := by decide +kernel
  exact fun b hb => h ⟨b, hb⟩
theorem inC_sg : ∀ b, b < 256 → inC cS0 cS1 b = isS1 b := by
  have h : ∀ b : Fin 256, inC cS0 cS1 b.val = isS1 b.val := by decide +kernel
  exact fun b hb => h ⟨b, hb⟩
/-! ### blanks and remarks -/
def Skp (l : List Nat) (n : Nat) : Prop := n ≤ l.length ∧ ∀ tx nu p, lexR tx nu l p = lexR tx nu (l.drop n) (p + n)
theorem Skp.zero (l : List Nat) : Skp l 0 := ⟨Nat.zero_le _, fun _ _ _ => rfl⟩
theorem Skp.add {l : List Nat} {n m : Nat} (h : Skp l n) (k : Skp (l.drop n) m) : Skp l (n + m) := by
  refine ⟨?_, fun tx nu p => ?_⟩
  · have h1 := h.1
    have h2 := k.1
    rw [List.length_drop] at h2
    omega
  · rw [h.2, k.2, List.drop_drop]
    congr 1
    omega
theorem skp_bl : ∀ l : List Nat, Skp l (l.takeWhile isBl).length
  | [] => Skp.zero _
  | c :: q => by
    rw [List.takeWhile_cons]
    split
    · rename_i h
      have h1 : Skp (c :: q) 1 := ⟨by simp, fun tx nu p => lexR_skip (by simp) (by unfold step; simp only [h, if_true])⟩
      have h2 := h1.add (m := (q.takeWhile isBl).length) (skp_bl q)
      rw [List.length_cons, Nat.add_comm]
      exact h2
    · exact Skp.zero _
theorem skp_rem {q : List Nat} : Skp (45 :: 45 :: q) ((45 :: 45 :: q).takeWhile (· != 10)).length := by
  refine ⟨tw_le _ _, fun tx nu p => lexR_skip (by simp) ?_⟩
  unfold step
  simp only [show isBl 45 = false from rfl, Bool.false_eq_true, if_false, List.head?_cons, and_self, if_true]
/-- Nothing to skip. -/
def NoSk (l : List Nat) : Prop := ∀ c q, l = c :: q → isBl c = false ∧ ¬ (c = 45 ∧ q.head? = some 45)
theorem dw_hd {f : Nat → Bool} : ∀ (l : List Nat) {c : Nat} {q : List Nat}, l.drop (l.takeWhile f).length = c :: q → f c = false
  | [], c, q, h => by simp at h
  | x :: l, c, q, h => by
    rw [List.takeWhile_cons] at h
    split at h
    · rw [List.length_cons, List.drop_succ_cons] at h
      exact dw_hd l h
    · rename_i hx
      simp only [List.length_nil, List.drop_zero, List.cons.injEq] at h
      rw [← h.1]
      simpa using hx
/-! ### what next answers -/
def ans : St → Nat × List Nat × Nat
  | .tok k t n => (k, t, n)
  | _ => (0, [], 0)
theorem step_ns {tx nu : List Nat → Bool} {l : List Nat} (hl : l ≠ []) (h : NoSk l) : ∀ n, step tx nu l ≠ .skip n := by
  cases l with
  | nil => exact absurd rfl hl
  | cons c q =>
    obtain ⟨h1, h2⟩ := h c q rfl
    intro n
    unfold step
    simp only [h1, Bool.false_eq_true, if_false, h2]
    split
    · split <;> simp
    split
    · split <;> simp
    split
    · split <;> simp
    split
    · split
      · simp
      · split <;> simp
    split
    · simp
    split <;> simp
end Go.Proofs.YtpfiejmhnkcjbaaGreatDoor.Lx
namespace Go.Proofs.YtpfiejmhnkcjbaaGreatDoor
open Go.RowKit
set_option linter.unusedVariables false
/-- A value without what is below it. -/
structure Hd where
  k : Int
  n : Int
  s : Int
  t : ByteArray
  ns : List ByteArray
/-- Values one behind the other, each with what is below it. -/
inductive Fo where
  | nil : Fo
  | cons (h : Hd) (kids rest : Fo) : Fo
abbrev Vt := Hd × Fo
def Fo.list : Fo → List Vt
  | .nil => []
  | .cons h k r => (h, k) :: r.list
def Fo.wt : Fo → Nat
  | .nil => 0
  | .cons _ k r => 1 + k.wt + r.wt
def wt (p : Vt) : Nat := 1 + p.2.wt
theorem wt_mem {p : Vt} : ∀ {f : Fo}, p ∈ f.list → wt p ≤ f.wt
  | .cons h k r, hp => by
    simp only [Fo.list, List.mem_cons] at hp
    simp only [Fo.wt]
    rcases hp with rfl | hp
    · simp only [wt]; omega
    · have := wt_mem hp; omega
theorem wt_kid {p q : Vt} (h : p ∈ q.2.list) : wt p < wt q := by
  have := wt_mem h
  show wt p < 1 + q.2.wt
  omega
structure Hok (h : Hd) : Prop where
  k0 : -9223372036854775808 ≤ h.k
  k1 : h.k < 9223372036854775808
  n0 : -9223372036854775808 ≤ h.n
  n1 : h.n < 9223372036854775808
  s0 : -9223372036854775808 ≤ h.s
  s1 : h.s < 9223372036854775808
  t1 : h.t.size ≤ 140737488355328
  c1 : h.ns.length ≤ 140737488355328
  e1 : ∀ x ∈ h.ns, x.size ≤ 140737488355328
def Wf : Fo → Prop
  | .nil => True
  | .cons h k r => (Hok h ∧ k.list.length ≤ 140737488355328 ∧ Wf k) ∧ Wf r
def WfV (p : Vt) : Prop := Hok p.1 ∧ p.2.list.length ≤ 140737488355328 ∧ Wf p.2
theorem wf_mem {p : Vt} : ∀ {f : Fo}, Wf f → p ∈ f.list → WfV p
  | .cons h k r, hw, hp => by
    simp only [Fo.list, List.mem_cons] at hp
    rcases hp with rfl | hp
    · exact hw.1
    · exact wf_mem hw.2 hp
theorem WfV.kid {p q : Vt} (h : WfV q) (hp : p ∈ q.2.list) : WfV p := wf_mem h.2.2 hp
/-- The value's cells. -/
def six (h : Hd) (na : Option Addr) (nc : Nat) (ka : Option Addr) (kl kc : Nat) : List Value :=
  [.int .i64 h.k, .int .i64 h.n, .int .i64 h.s, .string h.t, .slice na h.ns.length nc, .slice ka kl kc]
structure Nd (w : World) (b o : Nat) (h : Hd) (na : Option Addr) (nc : Nat) (ka : Option Addr) (kl kc : Nat) : Prop where
  c0 : w.cell? ⟨b, o, none⟩ = some (.int .i64 h.k)
  c1 : w.cell? ⟨b, o + 1, none⟩ = some (.int .i64 h.n)
  c2 : w.cell? ⟨b, o + 2, none⟩ = some (.int .i64 h.s)
  c3 : w.cell? ⟨b, o + 3, none⟩ = some (.string h.t)
  c4 : w.cell? ⟨b, o + 4, none⟩ = some (.slice na h.ns.length nc)
  c5 : w.cell? ⟨b, o + 5, none⟩ = some (.slice ka kl kc)
def Nms (w : World) (a : Option Addr) (ns : List ByteArray) : Prop := ns = [] ∨ ∃ b o, a = some ⟨b, o, none⟩ ∧ ∀ i x, ns[i]? = some x → w.cell? ⟨b, o + i, none⟩ = some (.string x)
structure Cap (a : Option Addr) (len cap : Nat) : Prop where
  le : len ≤ cap
  nil : a = none → cap = 0
  max : cap ≤ 9223372036854775807
/-- Values in memory from a place on. -/
def At (w : World) : Fo → Nat → Nat → Prop
  | .nil, _, _ => True
  | .cons h k r, b, o => (∃ na nc ka kc, Nd w b o h na nc ka k.list.length kc ∧ Nms w na h.ns ∧ Cap na h.ns.length nc ∧ (k = .nil ∨ ∃ b' o', ka = some ⟨b', o', none⟩ ∧ At w k b' o') ∧ Cap ka k.list.length kc) ∧ At w r b (o + 6)
def Slc (w : World) (a : Option Addr) (f : Fo) : Prop := f = .nil ∨ ∃ b o, a = some ⟨b, o, none⟩ ∧ At w f b o
/-- What a value leads to. -/
structure Vl (w : World) (p : Vt) (na : Option Addr) (nc : Nat) (ka : Option Addr) (kc : Nat) : Prop where
  nms : Nms w na p.1.ns
  nc : Cap na p.1.ns.length nc
  slc : Slc w ka p.2
  kc : Cap ka p.2.list.length kc
def NdV (w : World) (b o : Nat) (p : Vt) : Prop := ∃ na nc ka kc, Nd w b o p.1 na nc ka p.2.list.length kc ∧ Vl w p na nc ka kc
theorem At.get {w : World} {b : Nat} {p : Vt} : ∀ {f : Fo} {o i : Nat}, At w f b o → f.list[i]? = some p → NdV w b (o + i * 6) p
  | .cons h k r, o, 0, ha, hi => by
    simp only [Fo.list, List.getElem?_cons_zero, Option.some.injEq] at hi
    subst hi
    obtain ⟨⟨na, nc, ka, kc, h1, h2, h3, h4, h5⟩, _⟩ := ha
    exact ⟨na, nc, ka, kc, by simpa using h1, h2, h3, h4, h5⟩
  | .cons h k r, o, i + 1, ha, hi => by
    simp only [Fo.list, List.getElem?_cons_succ] at hi
    have := At.get ha.2 hi
    rw [show o + 6 + i * 6 = o + (i + 1) * 6 by omega] at this
    exact this
theorem Slc.get {w : World} {a : Option Addr} {f : Fo} (h : Slc w a f) {i : Nat} {p : Vt} (hp : f.list[i]? = some p) : ∃ b o, a = some ⟨b, o, none⟩ ∧ NdV w b (o + i * 6) p := by
  rcases h with rfl | ⟨b, o, e, ha⟩
  · simp [Fo.list] at hp
  · exact ⟨b, o, e, ha.get hp⟩
theorem cell_lt {w : World} {b o : Nat} {v : Value} (h : w.cell? ⟨b, o, none⟩ = some v) : b < w.heap.size := by
  apply Nat.lt_of_not_le; intro hle
  have : w.heap[b]? = none := Array.getElem?_eq_none hle
  simp [World.cell?, this] at h
theorem Nd.below {w w' : World} {b o : Nat} {h : Hd} {na ka : Option Addr} {nc kl kc : Nat} (g : Nd w b o h na nc ka kl kc) (hb : Below w.heap.size w w') : Nd w' b o h na nc ka kl kc :=
  ⟨(hb.cell (p := ⟨b, o, none⟩) (cell_lt g.c0)).trans g.c0, (hb.cell (p := ⟨b, o + 1, none⟩) (cell_lt g.c1)).trans g.c1, (hb.cell (p := ⟨b, o + 2, none⟩) (cell_lt g.c2)).trans g.c2,
   (hb.cell (p := ⟨b, o + 3, none⟩) (cell_lt g.c3)).trans g.c3, (hb.cell (p := ⟨b, o + 4, none⟩) (cell_lt g.c4)).trans g.c4, (hb.cell (p := ⟨b, o + 5, none⟩) (cell_lt g.c5)).trans g.c5⟩
theorem Nms.below {w w' : World} {a : Option Addr} {ns : List ByteArray} (h : Nms w a ns) (hb : Below w.heap.size w w') : Nms w' a ns := by
  rcases h with h | ⟨b, o, e, h⟩
  · exact .inl h
  · exact .inr ⟨b, o, e, fun i x hx => (hb.cell (p := ⟨b, o + i, none⟩) (cell_lt (h i x hx))).trans (h i x hx)⟩
theorem At.below {w w' : World} (hb : Below w.heap.size w w') : ∀ {f : Fo} {b o : Nat}, At w f b o → At w' f b o
  | .nil, _, _, _ => trivial
  | .cons h k r, b, o, ha => by
    obtain ⟨⟨na, nc, ka, kc, h1, h2, h3, h4, h5⟩, h6⟩ := ha
    refine ⟨⟨na, nc, ka, kc, h1.below hb, h2.below hb, h3, ?_, h5⟩, At.below hb h6⟩
    rcases h4 with h4 | ⟨b', o', e, h4⟩
    · exact .inl h4
    · exact .inr ⟨b', o', e, At.below hb h4⟩
theorem Slc.below {w w' : World} {a : Option Addr} {f : Fo} (h : Slc w a f) (hb : Below w.heap.size w w') : Slc w' a f := by
  rcases h with h | ⟨b, o, e, h⟩
  · exact .inl h
  · exact .inr ⟨b, o, e, h.below hb⟩
theorem Vl.below {w w' : World} {p : Vt} {na ka : Option Addr} {nc kc : Nat} (h : Vl w p na nc ka kc) (hb : Below w.heap.size w w') : Vl w' p na nc ka kc :=
  ⟨h.nms.below hb, h.nc, h.slc.below hb, h.kc⟩
/-! ### what came in -/
open Go.ChangeShapes Go.WideShapes Go.Deep
end Go.Proofs.YtpfiejmhnkcjbaaGreatDoor
namespace Go.Proofs.YtpfiejmhnkcjbaaGreatDoor
open Go.RowKit
set_option linter.unusedVariables false
def only (h : Hd) (kl : Nat) (F : Int) : Bool :=
  (F = 1 || F = 3 || decide (h.n = 0)) && (F = 3 || decide (h.s = 0)) && (F = 4 || h.t.toList.isEmpty) && (F = 24 || decide (h.ns.length = 0)) && (F = 16 || F = 24 || decide (kl = 0))
set_option maxRecDepth 8000 in
set_option maxHeartbeats 2000000 in
theorem only_any (h : Hd) (na : Option Addr) (nc : Nat) (ka : Option Addr) (kl kc : Nat) (F : Int) (hF : F = 0 ∨ F = 1 ∨ F = 3 ∨ F = 4 ∨ F = 16 ∨ F = 24) (w : World) :
    Calls Tryz.prog 181 #[.agg #[.int .i64 h.k, .int .i64 h.n, .int .i64 h.s, .string h.t, .slice na h.ns.length nc, .slice ka kl kc], .int .u64 F] w fun e w' => e = .returned (.bool (only h kl F)) ∧ Below w.heap.size w w' := by
  have HF : Hid _ := hF
  clear hF
  go_enter Tryz.func181, Tryz.ntmps181
  go_wp2
  all_goals
    go_ret
    refine ⟨?_, (Below.refl _ _).alloc (Nat.le_refl _) _⟩
    unfold only
    cases hte : h.t.toList.isEmpty <;> rcases HF.out with rfl | rfl | rfl | rfl | rfl | rfl <;> simp_all <;> decide
end Go.Proofs.YtpfiejmhnkcjbaaGreatDoor
namespace Go.Proofs.YtpfiejmhnkcjbaaGreatDoor
open Go.RowKit
set_option linter.unusedVariables false
theorem box_get {w w' : World} (vs : List Value) (t : TypeId) (hb : Below (w.alloc (.cells vs.toArray t)).heap.size (w.alloc (.cells vs.toArray t)) w') (j : Nat) (v : Value) (hv : vs[j]? = some v) : w'.cell? ⟨w.heap.size, j, none⟩ = some v := by
  rw [hb.cell (p := ⟨w.heap.size, j, none⟩) (by simp), World.cell?_alloc_new, List.getElem?_toArray, hv]
theorem box_below {w w' : World} (o : Obj) (hb : Below (w.alloc o).heap.size (w.alloc o) w') : Below w.heap.size w w' :=
  ((Below.refl _ _).alloc (Nat.le_refl _) _).trans (hb.mono (by simp))
def formed (h : Hd) (kl : Nat) : Bool :=
  if h.k = 1 then only h kl 0
  else if h.k = 2 then only h kl 1 && (h.n == 0 || h.n == 1)
  else if h.k = 3 then only h kl 1
  else if h.k = 4 then only h kl 3 && decide (1 ≤ h.s) && decide (h.s ≤ 18) && (h.n.tmod 10 != 0)
  else if h.k = 5 then only h kl 1 && decide (0 ≤ h.n) && decide (h.n ≤ 9007199254740992)
  else if h.k = 6 then only h kl 4
  else if h.k = 7 then only h kl 4
  else if h.k = 8 then only h kl 16
  else if h.k = 9 then only h kl 24
  else false
set_option maxRecDepth 8000 in
set_option maxHeartbeats 2000000 in
theorem formed_any (h : Hd) (na : Option Addr) (nc : Nat) (ka : Option Addr) (kl kc : Nat) (w : World) :
    Calls Tryz.prog 173 #[.agg #[.int .i64 h.k, .int .i64 h.n, .int .i64 h.s, .string h.t, .slice na h.ns.length nc, .slice ka kl kc]] w fun e w' => e = .returned (.bool (formed h kl)) ∧ Below w.heap.size w w' := by
  go_enter Tryz.func173, Tryz.ntmps173
  go_wp2_with (go_at_call 181; go_must (refine (only_any h na nc ka kl kc _ (by simp) _).mono ?_; rintro e w' ⟨rfl, hb⟩; have c1 := box_get (six h na nc ka kl kc) 41 hb 1 _ rfl; have c2 := box_get (six h na nc ka kl kc) 41 hb 2 _ rfl; have HB : Hid (Below w.heap.size w w') := box_below _ hb; clear hb))
  all_goals
    go_ret
    refine ⟨?_, by first | exact HB.out | exact (Below.refl _ _).alloc (Nat.le_refl _) _⟩
    simp_all [formed] <;> (intros; omega)
def rises : ByteArray → List ByteArray → Bool
  | _, [] => true
  | l, x :: r => !(Op.bytesLess x.toList l.toList || x.toList == l.toList) && !(decide (40 < x.size)) && rises x r
def named (ns : List ByteArray) (kl : Nat) : Bool := decide (ns.length = kl) && rises ⟨#[]⟩ ns
set_option maxRecDepth 8000 in
set_option maxHeartbeats 2000000 in
theorem named_any (h : Hd) (na : Option Addr) (nc : Nat) (ka : Option Addr) (kl kc : Nat) (w : World) (hn : Nms w na h.ns) (hl : h.ns.length ≤ 140737488355328) (he : ∀ x ∈ h.ns, x.size ≤ 140737488355328) :
    Calls Tryz.prog 174 #[.agg #[.int .i64 h.k, .int .i64 h.n, .int .i64 h.s, .string h.t, .slice na h.ns.length nc, .slice ka kl kc]] w fun e w' => e = .returned (.bool (named h.ns kl)) ∧ Below w.heap.size w w' := by
  have HN : Hid (Nms w na h.ns) := hn
  clear hn
  go_enter Tryz.func174, Tryz.ntmps174
  by_cases hE : h.ns.length = kl
  case neg =>
    have hd : ((h.ns.length : Int) != (kl : Int)) = true := by simp; omega
    go_wp2
    go_ret
    exact ⟨by simp [named, hE], (Below.refl _ _).alloc (Nat.le_refl _) _⟩
  subst hE
  go_wp2
  have HN1 : Hid (Nms (w.alloc (.cells #[.int .i64 h.k, .int .i64 h.n, .int .i64 h.s, .string h.t, .slice na h.ns.length nc, .slice ka h.ns.length kc] 41)) na h.ns) := HN.out.below ((Below.refl _ _).alloc (Nat.le_refl _) _)
  have HB : Hid (Below w.heap.size w (w.alloc (.cells #[.int .i64 h.k, .int .i64 h.n, .int .i64 h.s, .string h.t, .slice na h.ns.length nc, .slice ka h.ns.length kc] 41))) := (Below.refl _ _).alloc (Nat.le_refl _) _
  generalize w.alloc (.cells #[.int .i64 h.k, .int .i64 h.n, .int .i64 h.s, .string h.t, .slice na h.ns.length nc, .slice ka h.ns.length kc] 41) = w1 at *
  go_loopw [3, 5, 16] (fun l x i wr => ∃ k : Nat, k ≤ h.ns.length ∧ i = .int .i64 (k : Int) ∧ ∃ last, l = .string last ∧ wr = w1 ∧ Hid (named h.ns h.ns.length = rises last (h.ns.drop k))) (fun _ _ i _ => h.ns.length - (intOf i).toNat)
  case atStart => exact ⟨0, by omega, rfl, _, rfl, rfl, by show _ = _; simp [named]⟩
  case round =>
    obtain ⟨k, hk, rfl, last, rfl, rfl, HR⟩ := hrel
    by_cases hlt : k < h.ns.length
    case neg =>
      go_wp2
      go_ret
      exact ⟨by rw [HR.out, List.drop_of_length_le (by omega)]; rfl, HB.out⟩
    obtain ⟨x, hx⟩ : ∃ x, h.ns[k]? = some x := ⟨_, List.getElem?_eq_getElem hlt⟩
    have hxs : x.size ≤ 140737488355328 := he x (List.mem_of_getElem? hx)
    have HD : Hid (h.ns.drop k = x :: h.ns.drop (k + 1)) := by
      have := List.drop_eq_getElem_cons hlt
      rw [List.getElem?_eq_getElem hlt] at hx
      show _ = _
      rw [this, Option.some.inj hx]
    rcases HN1.out with e | ⟨b, o, rfl, hc⟩
    · simp [e] at hlt
    have c := hc k x hx
    clear hc hx
    cases hA : Op.bytesLess x.toList last.toList <;> cases hB : (x.toList == last.toList) <;> by_cases hC : 40 < x.size
    rotate_left
    · go_wp2
      go_roundw
      case rel =>
        refine ⟨k + 1, by omega, by go_num, x, rfl, trivial, ?_⟩
        show _ = _
        rw [HR.out, HD.out]
        simp [rises, hA, hB, hC]
      case measure => simp [intOf]; omega
    all_goals
      go_wp2
      go_ret
      exact ⟨by rw [HR.out, HD.out]; simp [rises, hA, hB, hC], HB.out⟩
def own (h : Hd) (kl : Nat) : Int := if formed h kl = true then (if 16384 < h.t.size ∨ 200 < kl then 5 else if h.k = 9 ∧ named h.ns kl = false then 3 else 0) else 3
/-- The first error of values that stand so deep. -/
def chk : Fo → Int → Int
  | .nil, _ => 0
  | .cons h k r, d => if (if 16 < d then 9 else if own h k.list.length ≠ 0 then own h k.list.length else chk k (d + 1)) ≠ 0 then (if 16 < d then 9 else if own h k.list.length ≠ 0 then own h k.list.length else chk k (d + 1)) else chk r d
def chkV (p : Vt) (d : Int) : Int := if 16 < d then 9 else if own p.1 p.2.list.length ≠ 0 then own p.1 p.2.list.length else chk p.2 (d + 1)
theorem chk_cons (p : Vt) (r : Fo) (d : Int) : chk (.cons p.1 p.2 r) d = if chkV p d ≠ 0 then chkV p d else chk r d := rfl
def Fo.drop : Nat → Fo → Fo
  | 0, f => f
  | _ + 1, .nil => .nil
  | n + 1, .cons _ _ r => Fo.drop n r
theorem Fo.drop_at : ∀ (f : Fo) (i : Nat) (p : Vt), f.list[i]? = some p → f.drop i = .cons p.1 p.2 (f.drop (i + 1))
  | .nil, i, p, h => by simp [Fo.list] at h
  | .cons hd k r, 0, p, h => by
    simp only [Fo.list, List.getElem?_cons_zero, Option.some.injEq] at h
    subst h
    cases r <;> rfl
  | .cons hd k r, i + 1, p, h => by
    simp only [Fo.list, List.getElem?_cons_succ] at h
    have := Fo.drop_at r i p h
    simp only [Fo.drop]
    exact this
theorem Fo.drop_end : ∀ (f : Fo) (i : Nat), f.list.length ≤ i → f.drop i = .nil
  | .nil, 0, _ => rfl
  | .nil, i + 1, _ => rfl
  | .cons hd k r, 0, h => by simp [Fo.list] at h
  | .cons hd k r, i + 1, h => Fo.drop_end r i (by simpa [Fo.list] using h)
end Go.Proofs.YtpfiejmhnkcjbaaGreatDoor
