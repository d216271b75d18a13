/-
  Values as bytes, over trees: what is written of a value, and what is read. No program is named. · What is written is read as it was; what is read is written so. No program is named. · What is read is written so; how bytes that are cut short are read. No program is named. · What the walks share: a row of bytes in memory, as a list of numbers. · The contracts of the law package's helpers: same, roomy, stands; and one law on append onto a slice of bytes that the call made. · The contracts of octet.Uvarint and of the document's own Uvarint: each makes the same bytes of a number. · The contract of the document's own check, at values that have no kids. · Zig and Zag, both. · The contract of the document's own check, at lists. · The contract of the document's own check, at structs; and whole.
-/
import Derived.Test.YtpfiejmhnkcjbaaGreatDoorFG1x
import Derived.Test.YtpfiejmhnkcjbaaGreatDoorRows
import Derived.WalkKit
import Derived.WalkSpells
import Derived.StillTactics
import Derived.Laws.Pointers
import Derived.RowKit3
import Derived.Below
import Derived.Deep.QuietTactic
import Derived.BigQuiet
import Derived.WalkSmall
import Derived.Laws.AppendOwnNone
import Derived.OpenShut
namespace Go.Proofs.YtpfiejmhnkcjbaaGreatDoor
open Go.RowKit Math
set_option linter.unusedVariables false
/-! ### values one behind the other -/
def Fo.snoc : Fo → Vt → Fo
  | .nil, p => .cons p.1 p.2 .nil
  | .cons h k r, p => .cons h k (r.snoc p)
theorem snoc_list (p : Vt) : ∀ f : Fo, (f.snoc p).list = f.list ++ [p]
  | .nil => rfl
  | .cons h k r => by simp [Fo.snoc, Fo.list, snoc_list p r]
/-- How deep values are. -/
def dpF : Fo → Nat
  | .nil => 0
  | .cons _ k r => max (1 + dpF k) (dpF r)
def dpV (p : Vt) : Nat := 1 + dpF p.2
/-! ### the check without the depth -/
def chk0 : Fo → Int
  | .nil => 0
  | .cons h k r => if (if own h k.list.length ≠ 0 then own h k.list.length else chk0 k) ≠ 0 then (if own h k.list.length ≠ 0 then own h k.list.length else chk0 k) else chk0 r
def chk0V (p : Vt) : Int := if own p.1 p.2.list.length ≠ 0 then own p.1 p.2.list.length else chk0 p.2
theorem chk_flat : ∀ (f : Fo) (d : Int), d + (dpF f : Int) ≤ 17 → chk f d = chk0 f
  | .nil, d, _ => rfl
  | .cons h k r, d, hd => by
    simp only [dpF] at hd
    have e1 := chk_flat k (d + 1) (by omega)
    have e2 := chk_flat r d (by omega)
    simp only [chk, chk0]
    rw [if_neg (show ¬ 16 < d by omega), e1, e2]
theorem chkV_flat (p : Vt) (d : Int) (hd : d + (dpV p : Int) ≤ 17) : chkV p d = chk0V p := by
  unfold dpV at hd
  unfold chkV chk0V
  rw [if_neg (by omega), chk_flat p.2 (d + 1) (by omega)]
theorem chk0_cons (p : Vt) (r : Fo) : chk0 (.cons p.1 p.2 r) = if chk0V p ≠ 0 then chk0V p else chk0 r := rfl
theorem deep_of : ∀ (f : Fo) (d : Int), d ≤ 17 → chk f d = 0 → d + (dpF f : Int) ≤ 17
  | .nil, d, hd, _ => by simp [dpF]; exact hd
  | .cons h k r, d, hd, hc => by
    simp only [chk] at hc
    by_cases h16 : 16 < d
    · rw [if_pos h16] at hc
      simp at hc
    rw [if_neg h16] at hc
    by_cases h1 : own h k.list.length = 0
    · simp only [h1, ne_eq, not_true_eq_false, if_false] at hc
      by_cases h2 : chk k (d + 1) = 0
      · simp only [h2, not_true_eq_false, if_false] at hc
        have a := deep_of k (d + 1) (by omega) h2
        have b := deep_of r d hd hc
        simp only [dpF]
        omega
      · simp [h2] at hc
    · simp [h1] at hc
theorem deepV_of (p : Vt) (d : Int) (hc : chkV p d = 0) : d + (dpV p : Int) ≤ 17 := by
  unfold chkV at hc
  by_cases h16 : 16 < d
  · rw [if_pos h16] at hc; cases hc
  rw [if_neg h16] at hc
  by_cases h1 : own p.1 p.2.list.length = 0
  · simp only [h1, ne_eq, not_true_eq_false, if_false] at hc
    have := deep_of p.2 (d + 1) (by omega) hc
    unfold dpV
    omega
  · simp [h1] at hc
/-! ### what is written -/
def txB (s : ByteArray) : List Nat := uv s.size ++ bts s
def bodyB (h : Hd) (kl : Nat) : List Nat :=
  if h.k = 2 then [h.n.toNat] else if h.k = 3 then uv (zigS h.n).toNat else if h.k = 4 then uv (zigS h.n).toNat ++ [h.s.toNat] else if h.k = 5 then uv h.n.toNat
  else if h.k = 6 then txB h.t else if h.k = 7 then txB h.t else if h.k = 8 then uv kl else if h.k = 9 then uv kl else []
def headB (h : Hd) (kl : Nat) : List Nat := h.k.toNat :: bodyB h kl
/-- Values one behind the other, each behind its name where they have names. -/
def enc : Fo → Bool → List ByteArray → List Nat
  | .nil, _, _ => []
  | .cons h k r, b, ns => ((if b then txB (ns.headD ⟨#[]⟩) else []) ++ (headB h k.list.length ++ enc k (decide (h.k = 9)) h.ns)) ++ enc r b ns.tail
def encV (p : Vt) : List Nat := headB p.1 p.2.list.length ++ enc p.2 (decide (p.1.k = 9)) p.1.ns
theorem enc_cons (p : Vt) (r : Fo) (b : Bool) (ns : List ByteArray) : enc (.cons p.1 p.2 r) b ns = ((if b then txB (ns.headD ⟨#[]⟩) else []) ++ encV p) ++ enc r b ns.tail := rfl
/-! ### what is read -/
abbrev em : ByteArray := ⟨#[]⟩
def lf (k n s : Int) (t : ByteArray) : Vt := (⟨k, n, s, t, []⟩, .nil)
def nst (k : Int) (q : Fo × List ByteArray) : Vt := (⟨k, 0, 0, em, q.2⟩, q.1)
/-! ### good readers -/
/-! ### what is written is read -/
structure Fine (h : Hd) (kl : Nat) : Prop where
  form : formed h kl = true
  t : h.t.size ≤ 16384
  c : kl ≤ 200
  nm : h.k = 9 → named h.ns kl = true
theorem own_fine {h : Hd} {kl : Nat} (e : own h kl = 0) : Fine h kl := by
  unfold own at e
  split at e
  · next hf =>
    split at e
    · cases e
    · next h2 =>
      split at e
      · cases e
      · next h3 =>
        refine ⟨hf, by omega, by omega, fun h9 => ?_⟩
        cases hn : named h.ns kl with
        | true => rfl
        | false => exact absurd ⟨h9, hn⟩ h3
  · cases e
theorem em_of {t : ByteArray} (h : t.toList.isEmpty = true) : t = em := by
  rw [ByteArray.toList_eq] at h
  cases t with
  | mk d =>
    cases d with
    | mk l =>
      cases l with
      | nil => rfl
      | cons a l => simp at h
theorem fo_nil {f : Fo} (h : f.list.length = 0) : f = .nil := by
  cases f with
  | nil => rfl
  | cons h k r => simp [Fo.list] at h
/-- The parts that a kind has, and no others. -/
theorem leaf_of {p : Vt} {F : Int} (h : only p.1 p.2.list.length F = true) (hF : F ≠ 16) (hF2 : F ≠ 24) : p.1.ns = [] ∧ p.2 = .nil ∧ (F ≠ 4 → p.1.t = em) ∧ (F ≠ 3 → p.1.s = 0) ∧ (F ≠ 1 → F ≠ 3 → p.1.n = 0) := by
  simp only [only, Bool.and_eq_true, Bool.or_eq_true, decide_eq_true_eq] at h
  obtain ⟨⟨⟨⟨h1, h2⟩, h3⟩, h4⟩, h5⟩ := h
  refine ⟨?_, ?_, fun hf => ?_, fun hf => ?_, fun ha hb => ?_⟩
  · rcases h4 with h4 | h4
    · exact absurd h4 hF2
    · exact List.eq_nil_of_length_eq_zero h4
  · rcases h5 with (h5 | h5) | h5
    · exact absurd h5 hF
    · exact absurd h5 hF2
    · exact fo_nil h5
  · rcases h3 with h3 | h3
    · exact absurd h3 hf
    · exact em_of h3
  · rcases h2 with h2 | h2
    · exact absurd h2 hf
    · exact h2
  · rcases h1 with (h1 | h1) | h1
    · exact absurd h1 ha
    · exact absurd h1 hb
    · exact h1
end Go.Proofs.YtpfiejmhnkcjbaaGreatDoor
namespace Go.Proofs.YtpfiejmhnkcjbaaGreatDoor
open Go.RowKit Math
set_option linter.unusedVariables false
theorem names_len {ns : List ByteArray} {kl : Nat} (h : named ns kl = true) : ns.length = kl ∧ ∀ x ∈ ns, x.size ≤ 40 := by
  simp only [named, Bool.and_eq_true, decide_eq_true_eq] at h
  refine ⟨h.1, ?_⟩
  have : ∀ (l : List ByteArray) (a : ByteArray), rises a l = true → ∀ x ∈ l, x.size ≤ 40 := by
    intro l
    induction l with
    | nil => intro a _ x hx; cases hx
    | cons y l ih =>
      intro a h x hx
      simp only [rises, Bool.and_eq_true, Bool.not_eq_true', decide_eq_false_iff_not] at h
      rcases List.mem_cons.1 hx with rfl | hx
      · omega
      · exact ih y h.2 x hx
  exact this ns _ h.2
theorem chk0_mem : ∀ {f : Fo} {p : Vt}, chk0 f = 0 → p ∈ f.list → chk0V p = 0
  | .cons h k r, p, hc, hp => by
    have e : chk0 (.cons h k r) = if chk0V (h, k) ≠ 0 then chk0V (h, k) else chk0 r := rfl
    rw [e] at hc
    by_cases h0 : chk0V (h, k) = 0
    · rw [if_neg (by simpa using h0)] at hc
      rcases List.mem_cons.1 hp with rfl | hp
      · exact h0
      · exact chk0_mem hc hp
    · rw [if_pos h0] at hc
      exact absurd hc h0
theorem zig_nat (n : Int) (h1 : -9223372036854775808 ≤ n) (h2 : n < 9223372036854775808) : (zigS n).toNat < 18446744073709551616 ∧ zagS ((zigS n).toNat : Int) = n := by
  have := zig_bd n h1 (by omega)
  refine ⟨by omega, ?_⟩
  rw [Int.toNat_of_nonneg this.1, zag_zig]
end Go.Proofs.YtpfiejmhnkcjbaaGreatDoor
namespace Go.Proofs.YtpfiejmhnkcjbaaGreatDoor
open Go.RowKit Math
set_option linter.unusedVariables false
theorem wf_snoc {p : Vt} (hp : WfV p) : ∀ {f : Fo}, Wf f → Wf (f.snoc p)
  | .nil, _ => ⟨hp, trivial⟩
  | .cons h k r, hf => ⟨hf.1, wf_snoc hp hf.2⟩
theorem own_of0 {p : Vt} (h : chk0V p = 0) : own p.1 p.2.list.length = 0 ∧ chk0 p.2 = 0 := by
  by_cases ho : own p.1 p.2.list.length = 0
  · rw [chk0V, if_neg (by simpa using ho)] at h
    exact ⟨ho, h⟩
  · rw [chk0V, if_pos ho] at h
    exact absurd h ho
/-! ### what follows -/
end Go.Proofs.YtpfiejmhnkcjbaaGreatDoor
namespace Go.Proofs.YtpfiejmhnkcjbaaGreatDoor
open Go.RowKit Math

/-- The cells of a row of bytes. -/
def Cells (w : World) (b off : Nat) (l : List Nat) : Prop := ∀ i, i < l.length → w.cell? ⟨b, off + i, none⟩ = some (.int .u8 ((l.getD i 0 : Nat) : Int))
/-- A slice's address, and its bytes. -/
def Byt (w : World) (a : Option Addr) (l : List Nat) : Prop := l = [] ∨ ∃ b off, a = some ⟨b, off, none⟩ ∧ Cells w b off l
end Go.Proofs.YtpfiejmhnkcjbaaGreatDoor
namespace Go.Proofs.YtpfiejmhnkcjbaaGreatDoor
open Go.RowKit Go.ChangeShapes Go.WideShapes Math
theorem Tryz.info5 : (Tryz.prog.info? 5).map (fun i => (i.zero, i.size, i.bytes)) = some (some (.int .u8 0), 1, 1) := by kernel_rfl
/-- Bytes as cells. -/
def vals (l : List Nat) : List Value := l.map fun n : Nat => Value.int .u8 (n : Int)
theorem vals_length (l : List Nat) : (vals l).length = l.length := by simp [vals]
theorem vals_get (l : List Nat) (i : Nat) (h : i < l.length) : (vals l)[i]? = some (.int .u8 ((l.getD i 0 : Nat) : Int)) := by
  simp [vals, List.getD_eq_getElem?_getD, List.getElem?_eq_getElem h]
theorem vals_one (l : List Nat) : ∀ u ∈ vals l, u.oneCell' = true := by
  intro u hu
  obtain ⟨_, _, rfl⟩ := List.mem_map.1 hu
  rfl
/-- A slice of bytes that the call made. -/
def Own (w : World) (base : Nat) (v : Value) (l : List Nat) : Prop := w.ownsRow base 5 1 v l.length (vals l)
theorem app_bytes {ops : Array Oper} {rest : List Oper} {o : Oper} {a : Act} {Q : Exit → Act → World → Prop} {w : World} (hgd : o.guard = none) (s x : Operand)
    (ho : o.op = .call { callee := .builtin .append, args := #[s, x], argTypes := #[34, 34] })
    (base : Nat) (v : Value) (l : List Nat) (hs : a.eval s = v) (hown : Own w base v l)
    (ax : Option Addr) (m c : Nat) (l2 : List Nat) (hm : m = l2.length) (hx : a.eval x = .slice ax m c) (hsrc : Byt w ax l2) (hnil : ax = none → c = 0)
    (hb : l.length + l2.length ≤ 1000000) (hbase : base ≤ w.heap.size)
    (h : ∀ v' w', Own w' base v' (l ++ l2) → w.grownBy w' v.ownBlock → wpList Tryz.prog ops Q rest (a.put o.dst v') w') : wpList Tryz.prog ops Q (o :: rest) a w := by
  subst hm
  obtain ⟨i, hi, hz0, hz1, hz2⟩ := info_parts Tryz.info5
  cases ax with
  | none =>
    obtain rfl := hnil rfl
    have hl : l2 = [] := by
      rcases hsrc with h | ⟨_, _, h, _⟩
      · exact h
      · cases h
    subst hl
    refine wpList_append_own_none hgd s x 34 ho base 5 i 1 Tryz.underlying34 hi v _ _ hs hown hx (h v w ?_ (World.grownBy.refl _ _))
    simpa using hown
  | some ad =>
    refine wpList_append_own _ hgd s x 34 ho base 5 i (.int .u8 0) 1 1 Tryz.underlying34 hi hz0 hz1 hz2 rfl (by decide) v _ _ hs hown ad l2.length c (vals l2) hx (by simp [vals_length]) ?_ (vals_one l2) (by unfold maxLen; omega) (by omega) hbase ?_
    · intro j u hj
      have hjl : j < l2.length := by
        have := (List.getElem?_eq_some_iff.1 hj).1
        simpa [vals_length] using this
      rcases hsrc with rfl | ⟨b, off, he, hc⟩
      · simp at hjl
      · obtain rfl := Option.some.inj he
        rw [vals_get l2 j hjl] at hj
        rw [Addr.add_lit, hc j hjl]
        exact hj
    · intro v' w' h1 h2 _
      refine h v' w' ?_ h2
      unfold Own
      rw [List.length_append, show vals (l ++ l2) = vals l ++ vals l2 by simp [vals]]
      exact h1
theorem byt_lit (w : World) (l : List Nat) : Byt (w.alloc (.cells (vals l).toArray 5)) (some ⟨w.heap.size, 0, none⟩) l := by
  refine .inr ⟨_, _, rfl, fun i hi => ?_⟩
  rw [Nat.zero_add, World.cell?_alloc_new, List.getElem?_toArray, vals_get l i hi]
theorem Own.alloc {w : World} {base : Nat} {v : Value} {l : List Nat} (h : Own w base v l) (o : Obj) : Own (w.alloc o) base v l := World.ownsRow.alloc h o
/-- Behind an append onto what the call made nothing that was there has turned. -/
theorem below_app {B : Nat} {w0 w w' : World} {v : Value} {l : List Nat} (hb : Below B w0 w) (hB : B ≤ w.heap.size) (h : Own w B v l) (hg : w.grownBy w' v.ownBlock) : Below B w0 w' :=
  hb.grown hg hB fun k hk => (World.ownsRow.lt h k hk).1
/-- What the walk is told of a slice of integers that came in: it is nil; or it leads to a row of 'cap' cells, the numbers 'zs' (the first 'len' are its elements, the rest its spare room), each fitting its kind. -/
def IsRow (k : IntKind) (w : World) (a : Option Addr) (len cap : Nat) (zs : List Int) : Prop :=
  (a = none ∧ len = 0 ∧ cap = 0 ∧ zs = []) ∨
  ∃ x, a = some x ∧ len ≤ cap ∧ cap ≤ maxLen ∧ zs.length = cap ∧ (∀ i, i < zs.length → w.cell? (x.add i) = some (.int k (zs.getD i 0))) ∧ ∀ n ∈ zs, (Lit.int k n).wf = true
theorem row_byt {w : World} {a : Option Addr} {len cap : Nat} {zs : List Int} (h : IsRow .u8 w a len cap zs) :
    ∃ l : List Nat, l.length = len ∧ Byt w a l ∧ Oct l ∧ (a = none → cap = 0) ∧ len ≤ maxLen := by
  rcases h with ⟨rfl, rfl, rfl, rfl⟩ | ⟨x, rfl, hlc, hm, hz, hc, hwf⟩
  · exact ⟨[], rfl, .inl rfl, (fun x hx => by cases hx), fun _ => rfl, by unfold maxLen; omega⟩
  · refine ⟨(zs.take len).map Int.toNat, by simp; omega, ?_, ?_, (fun h => by cases h), by omega⟩
    · by_cases h0 : len = 0
      · left; subst h0; rfl
      · right
        obtain ⟨b, off, spot⟩ := x
        have hs : spot = none := by simpa [Addr.add] using World.cell?_spot (hc 0 (by omega))
        subst hs
        refine ⟨b, off, rfl, fun i hi => ?_⟩
        have hi' : i < len := by simp at hi; omega
        have h1 := hc i (by omega)
        have h2 := bounds_u8 (hwf (zs[i]'(by omega)) (List.getElem_mem _))
        rw [Addr.add_lit] at h1
        rw [h1]
        have e1 : zs.getD i 0 = zs[i]'(by omega) := by simp [List.getD_eq_getElem?_getD, List.getElem?_eq_getElem (show i < zs.length by omega)]
        have e2 : ((zs.take len).map Int.toNat).getD i 0 = (zs[i]'(by omega)).toNat := by
          simp [List.getD_eq_getElem?_getD, hi', List.getElem?_eq_getElem (show i < zs.length by omega)]
        rw [e1, e2, Int.toNat_of_nonneg h2.1]
    · intro x hx
      obtain ⟨z, hz, rfl⟩ := List.mem_map.1 hx
      have := bounds_u8 (hwf z (List.mem_of_mem_take hz))
      omega
end Go.Proofs.YtpfiejmhnkcjbaaGreatDoor
namespace Go.Proofs.YtpfiejmhnkcjbaaGreatDoor
open Go.RowKit Math
set_option maxHeartbeats 400000 in
theorem uv_any (v : Nat) (hv : v < 18446744073709551616) (w : World) :
    Calls Tryz.prog 176 #[.int .u64 v] w fun e w' => ∃ r, e = .returned r ∧ Own w' w.heap.size r (uv v) ∧ Below w.heap.size w w' := by
  have h10 := uv_ten v hv
  go_enter Tryz.func176, Tryz.ntmps176
  go_wp2
  go_loopw [0, 3] (fun x o wr => ∃ (u : Nat) (pre : List Nat), x = .int .u64 u ∧ u < 18446744073709551616 ∧ Hid (uv v = pre ++ uv u) ∧ Own wr w.heap.size o pre ∧ Below w.heap.size w wr) (fun x _ _ => (intOf x).toNat)
  case atStart => exact ⟨v, [], rfl, hv, rfl, World.ownsRow_nil _ _ _ _, Below.refl _ _⟩
  case round =>
    obtain ⟨u, pre, rfl, hu, HE, hown, hbel⟩ := hrel
    have hs := hbel.size
    have hlen : pre.length + 1 ≤ 10 := by
      have := congrArg List.length HE.out
      have h1 := uv_pos u
      simp at this; omega
    by_cases h127 : u < 128
    · have HF : Hid (uv v = pre ++ [u]) := by show _ = _; rw [HE.out, uv_lo u (by omega)]
      go_wp2_with (at_builtin; go_must (refine app_bytes rfl (.tmp 14) (.tmp 17) rfl w.heap.size _ pre rfl (hown.alloc _) _ _ _ [u] rfl rfl (byt_lit wr [u]) (by simp) (by simp; omega) (by simp; omega) ?_))
      intro v1 w1 o1 g1
      have b1 := below_app (hbel.alloc hs _) (by simp; omega) (hown.alloc _) g1
      clear g1 hown
      go_wp2
      go_ret
      exact ⟨v1, rfl, by rw [HF.out]; exact o1, b1⟩
    · obtain ⟨y, hy, HY⟩ : ∃ y : Nat, bits .or .u8 ((u : Int) % 256) 128 = (y : Int) ∧ Hid (y = u % 128 + 128) := ⟨_, or_u8 u, rfl⟩
      have HF : Hid (uv v = (pre ++ [y]) ++ uv (u / 128)) := by show _ = _; rw [HE.out, uv_hi u (by omega), HY.out, List.append_assoc]; rfl
      go_wp2_with (at_builtin; go_must (refine app_bytes rfl (.tmp 6) (.tmp 10) rfl w.heap.size _ pre rfl (hown.alloc _) _ _ _ [y] rfl rfl (byt_lit wr [y]) (by simp) (by simp; omega) (by simp; omega) ?_))
      intro v1 w1 o1 g1
      have b1 := below_app (hbel.alloc hs _) (by simp; omega) (hown.alloc _) g1
      clear g1 hown hy
      go_wp2
      go_roundw
      case rel => exact ⟨u / 128, pre ++ [y], by go_num, by omega, HF, o1, b1⟩
      case measure => simp [intOf]; omega
end Go.Proofs.YtpfiejmhnkcjbaaGreatDoor
namespace Go.Proofs.YtpfiejmhnkcjbaaGreatDoor
open Go.RowKit
set_option linter.unusedVariables false
theorem ret_int {k : IntKind} {a b : Int} (h : a = b) : Ending.returned (.int k a) = .returned (.int k b) := by rw [h]
theorem own_no {h : Hd} {kl : Nat} (hf : formed h kl = false) : 3 = own h kl := by simp [own, hf]
end Go.Proofs.YtpfiejmhnkcjbaaGreatDoor
namespace Go.Proofs.YtpfiejmhnkcjbaaGreatDoor
open Go.RowKit Go.ChangeShapes Go.WideShapes Math
set_option linter.unusedVariables false
set_option maxHeartbeats 400000 in
theorem zig_any (v : Int) (h1 : -9223372036854775808 ≤ v) (h2 : v ≤ 9223372036854775807) (w : World) :
    Calls Tryz.prog 175 #[.int .i64 v] w fun e w' => e = .returned (.int .u64 (zigS v)) ∧ w' = w := by
  have hz := zig_bits v h1 h2
  go_enter Tryz.func175, Tryz.ntmps175
  go_wp2
  go_ret
  exact ⟨rfl, rfl⟩
end Go.Proofs.YtpfiejmhnkcjbaaGreatDoor
namespace Go.Proofs.YtpfiejmhnkcjbaaGreatDoor
open Go.RowKit
set_option linter.unusedVariables false
/-- What check answers, of each value that is smaller. -/
def RIh (F : Nat) (p : Vt) : Prop := ∀ q : Vt, wt q < wt p → WfV q → ∀ (na : Option Addr) (nc : Nat) (ka : Option Addr) (kc : Nat) (d : Int) (W : World), 0 ≤ d → d ≤ 17 → Vl W q na nc ka kc →
  Calls Tryz.prog F #[.agg #[.int .i64 q.1.k, .int .i64 q.1.n, .int .i64 q.1.s, .string q.1.t, .slice na q.1.ns.length nc, .slice ka q.2.list.length kc], .int .i64 d] W fun e w' => e = .returned (.int .i64 (chkV q d)) ∧ Below W.heap.size W w'
theorem chkV_own {p : Vt} {d : Int} (hd : d ≤ 16) (h : own p.1 p.2.list.length ≠ 0) : own p.1 p.2.list.length = chkV p d := by
  simp only [chkV]
  rw [if_neg (by omega), if_pos h]
theorem chkV_kids {p : Vt} {d : Int} (hd : d ≤ 16) (h : own p.1 p.2.list.length = 0) : chkV p d = chk p.2 (d + 1) := by
  simp only [chkV]
  rw [if_neg (by omega), if_neg (by simp [h])]
theorem chk_step {f : Fo} {k : Nat} {q : Vt} {d : Int} (h : f.list[k]? = some q) : chk (f.drop k) d = if chkV q d ≠ 0 then chkV q d else chk (f.drop (k + 1)) d := by
  rw [Fo.drop_at f k q h, chk_cons]
theorem NdV.below {w w' : World} {b o : Nat} {p : Vt} (h : NdV w b o p) (hb : Below w.heap.size w w') : NdV w' b o p := by
  obtain ⟨na, nc, ka, kc, h1, h2⟩ := h
  exact ⟨na, nc, ka, kc, h1.below hb, h2.below hb⟩
/-- What a walk over a value's kids has of them. -/
theorem Vl.kid {w wr : World} {p : Vt} {na ka : Option Addr} {nc kc : Nat} (h : Vl w p na nc ka kc) (hb : Below w.heap.size w wr) {k : Nat} (hk : k < p.2.list.length) :
    ∃ q b o na' nc' ka' kc', p.2.list[k]? = some q ∧ ka = some ⟨b, o, none⟩ ∧ Nd wr b (o + k * 6) q.1 na' nc' ka' q.2.list.length kc' ∧ Vl wr q na' nc' ka' kc' := by
  obtain ⟨q, hq⟩ : ∃ q, p.2.list[k]? = some q := ⟨_, List.getElem?_eq_getElem hk⟩
  obtain ⟨b, o, e, hn⟩ := h.slc.get hq
  obtain ⟨na', nc', ka', kc', h1, h2⟩ := hn.below hb
  exact ⟨q, b, o, na', nc', ka', kc', hq, e, h1, h2⟩
end Go.Proofs.YtpfiejmhnkcjbaaGreatDoor
namespace Go.Proofs.YtpfiejmhnkcjbaaGreatDoor
open Go.RowKit
set_option linter.unusedVariables false
theorem below_dq {B : Nat} (w : World) (q : Nat) : Below B w (w.drewN q) := ⟨rfl, rfl, rfl, Nat.le_refl _, fun _ _ => rfl⟩
end Go.Proofs.YtpfiejmhnkcjbaaGreatDoor
