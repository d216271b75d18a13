/-
  Values as bytes, over trees: what is written of a value, and what is read. No program is named. · What is written is read as it was; what is read is written so. No program is named. · What is read is written so; how bytes that are cut short are read. No program is named.
-/
import Derived.Test.YtlefdnjokppibaaGreatDoorVG7x
namespace Go.Proofs.YtlefdnjokppibaaGreatDoor
open Go.RowKit Math
set_option linter.unusedVariables false
/-! ### values one behind the other -/
def Fo.snoc : Fo → Vt → Fo
  | .nil, p => .cons p.1 p.2 .nil
  | .cons h k r, p => .cons h k (r.snoc p)
theorem snoc_list (p : Vt) : ∀ f : Fo, (f.snoc p).list = f.list ++ [p]
  | .nil => rfl
  | .cons h k r => by simp [Fo.snoc, Fo.list, snoc_list p r]
theorem Fo.ind {P : Fo → Prop} (h0 : P .nil) (h1 : ∀ f p, P f → P (f.snoc p)) (f : Fo) : P f := by
  have key : ∀ (r g : Fo), P g → ∀ f : Fo, f.list = g.list ++ r.list → P f := by
    have ext : ∀ f g : Fo, f.list = g.list → f = g := by
      intro f
      induction f with
      | nil => intro g h; cases g with
        | nil => rfl
        | cons h k r => simp [Fo.list] at h
      | cons h k r _ ih => intro g e; cases g with
        | nil => simp [Fo.list] at e
        | cons h' k' r' =>
          simp only [Fo.list, List.cons.injEq, Prod.mk.injEq] at e
          obtain ⟨⟨rfl, rfl⟩, e⟩ := e
          rw [ih r' e]
    intro r
    induction r with
    | nil => intro g hg f e; rw [ext f g (by simpa [Fo.list] using e)]; exact hg
    | cons h k r _ ih =>
      intro g hg f e
      exact ih (g.snoc (h, k)) (h1 g (h, k) hg) f (by rw [e, snoc_list]; simp [Fo.list])
  exact key f .nil h0 f rfl
/-- How deep values are. -/
def dpF : Fo → Nat
  | .nil => 0
  | .cons _ k r => max (1 + dpF k) (dpF r)
def dpV (p : Vt) : Nat := 1 + dpF p.2
theorem dp_snoc (p : Vt) : ∀ f : Fo, dpF (f.snoc p) = max (dpF f) (dpV p)
  | .nil => by simp [Fo.snoc, dpF, dpV]
  | .cons h k r => by simp only [Fo.snoc, dpF, dp_snoc p r]; omega
/-! ### the check without the depth -/
def chk0 : Fo → Int
  | .nil => 0
  | .cons h k r => if (if own h k.list.length ≠ 0 then own h k.list.length else chk0 k) ≠ 0 then (if own h k.list.length ≠ 0 then own h k.list.length else chk0 k) else chk0 r
def chk0V (p : Vt) : Int := if own p.1 p.2.list.length ≠ 0 then own p.1 p.2.list.length else chk0 p.2
theorem chk_flat : ∀ (f : Fo) (d : Int), d + (dpF f : Int) ≤ 17 → chk f d = chk0 f
  | .nil, d, _ => rfl
  | .cons h k r, d, hd => by
    simp only [dpF] at hd
    have e1 := chk_flat k (d + 1) (by omega)
    have e2 := chk_flat r d (by omega)
    simp only [chk, chk0]
    rw [if_neg (show ¬ 16 < d by omega), e1, e2]
theorem chkV_flat (p : Vt) (d : Int) (hd : d + (dpV p : Int) ≤ 17) : chkV p d = chk0V p := by
  unfold dpV at hd
  unfold chkV chk0V
  rw [if_neg (by omega), chk_flat p.2 (d + 1) (by omega)]
theorem chk0_cons (p : Vt) (r : Fo) : chk0 (.cons p.1 p.2 r) = if chk0V p ≠ 0 then chk0V p else chk0 r := rfl
theorem chk0_snoc (p : Vt) : ∀ f : Fo, chk0 (f.snoc p) = if chk0 f ≠ 0 then chk0 f else chk0V p
  | .nil => by
    show chk0 (.cons p.1 p.2 .nil) = _
    rw [chk0_cons]
    simp only [chk0]
    by_cases h : chk0V p = 0 <;> simp [h]
  | .cons h k r => by
    show chk0 (.cons (h, k).1 (h, k).2 (r.snoc p)) = _
    have e : chk0 (.cons h k r) = if chk0V (h, k) ≠ 0 then chk0V (h, k) else chk0 r := rfl
    rw [chk0_cons, chk0_snoc p r, e]
    by_cases h1 : chk0V (h, k) = 0 <;> simp [h1]
theorem deep_of : ∀ (f : Fo) (d : Int), d ≤ 17 → chk f d = 0 → d + (dpF f : Int) ≤ 17
  | .nil, d, hd, _ => by simp [dpF]; exact hd
  | .cons h k r, d, hd, hc => by
    simp only [chk] at hc
    by_cases h16 : 16 < d
    · rw [if_pos h16] at hc
      simp at hc
    rw [if_neg h16] at hc
    by_cases h1 : own h k.list.length = 0
    · simp only [h1, ne_eq, not_true_eq_false, if_false] at hc
      by_cases h2 : chk k (d + 1) = 0
      · simp only [h2, not_true_eq_false, if_false] at hc
        have a := deep_of k (d + 1) (by omega) h2
        have b := deep_of r d hd hc
        simp only [dpF]
        omega
      · simp [h2] at hc
    · simp [h1] at hc
theorem deepV_of (p : Vt) (d : Int) (hc : chkV p d = 0) : d + (dpV p : Int) ≤ 17 := by
  unfold chkV at hc
  by_cases h16 : 16 < d
  · rw [if_pos h16] at hc; cases hc
  rw [if_neg h16] at hc
  by_cases h1 : own p.1 p.2.list.length = 0
  · simp only [h1, ne_eq, not_true_eq_false, if_false] at hc
    have := deep_of p.2 (d + 1) (by omega) hc
    unfold dpV
    omega
  · simp [h1] at hc
/-! ### what is written -/
def txB (s : ByteArray) : List Nat := uv s.size ++ bts s
def bodyB (h : Hd) (kl : Nat) : List Nat :=
  if h.k = 2 then [h.n.toNat] else if h.k = 3 then uv (zigS h.n).toNat else if h.k = 4 then uv (zigS h.n).toNat ++ [h.s.toNat] else if h.k = 5 then uv h.n.toNat
  else if h.k = 6 then txB h.t else if h.k = 7 then txB h.t else if h.k = 8 then uv kl else if h.k = 9 then uv kl else []
def headB (h : Hd) (kl : Nat) : List Nat := h.k.toNat :: bodyB h kl
/-- Values one behind the other, each behind its name where they have names. -/
def enc : Fo → Bool → List ByteArray → List Nat
  | .nil, _, _ => []
  | .cons h k r, b, ns => ((if b then txB (ns.headD ⟨#[]⟩) else []) ++ (headB h k.list.length ++ enc k (decide (h.k = 9)) h.ns)) ++ enc r b ns.tail
def encV (p : Vt) : List Nat := headB p.1 p.2.list.length ++ enc p.2 (decide (p.1.k = 9)) p.1.ns
theorem enc_cons (p : Vt) (r : Fo) (b : Bool) (ns : List ByteArray) : enc (.cons p.1 p.2 r) b ns = ((if b then txB (ns.headD ⟨#[]⟩) else []) ++ encV p) ++ enc r b ns.tail := rfl
theorem enc_snoc (p : Vt) (s : ByteArray) : ∀ (f : Fo) (b : Bool) (ns : List ByteArray), (b = true → ns.length = f.list.length) → enc (f.snoc p) b (if b then ns ++ [s] else ns) = enc f b ns ++ ((if b then txB s else []) ++ encV p)
  | .nil, b, ns, h => by
    show enc (.cons p.1 p.2 .nil) b _ = _
    rw [enc_cons]
    cases b
    · simp [enc]
    · have : ns = [] := List.eq_nil_of_length_eq_zero (by simpa [Fo.list] using h rfl)
      subst this
      simp [enc]
  | .cons hd k r, b, ns, h => by
    show enc (.cons (hd, k).1 (hd, k).2 (r.snoc p)) b _ = enc (.cons (hd, k).1 (hd, k).2 r) b ns ++ _
    rw [enc_cons, enc_cons, List.append_assoc]
    cases b
    · have := enc_snoc p s r false ns.tail (by simp)
      simp only [Bool.false_eq_true, if_false] at this ⊢
      rw [this, List.append_assoc, List.append_assoc]
    · cases ns with
      | nil => simp [Fo.list] at h
      | cons x ns =>
        have := enc_snoc p s r true ns (fun _ => by simpa [Fo.list] using h rfl)
        simp only [if_true] at this ⊢
        simp only [List.cons_append, List.headD_cons, List.tail_cons]
        rw [this, List.append_assoc, List.append_assoc]
/-! ### what is read -/
abbrev em : ByteArray := ⟨#[]⟩
def lf (k n s : Int) (t : ByteArray) : Vt := (⟨k, n, s, t, []⟩, .nil)
def nst (k : Int) (q : Fo × List ByteArray) : Vt := (⟨k, 0, 0, em, q.2⟩, q.1)
def wr64 (u : Nat) : Int := if u < 9223372036854775808 then (u : Int) else (u : Int) - 18446744073709551616
def rdN (g : Rdr Vt) (b : Bool) : Nat → Rdr (Fo × List ByteArray)
  | 0 => .ret (.nil, [])
  | n + 1 => (rdN g b n).bind fun q => if b then txR.bind fun s => g.bind fun v => .ret (q.1.snoc v, q.2 ++ [s]) else g.bind fun v => .ret (q.1.snoc v, q.2)
def rdV : Nat → Rdr Vt
  | 0 => .no 9
  | d + 1 => byR.bind fun k =>
      if k = 1 then .ret (lf 1 0 0 em)
      else if k = 2 then byR.bind fun x => if 1 < x then .no 3 else .ret (lf 2 x 0 em)
      else if k = 3 then uvR.bind fun u => .ret (lf 3 (zagS u) 0 em)
      else if k = 4 then uvR.bind fun u => byR.bind fun x => .ret (lf 4 (zagS u) x em)
      else if k = 5 then uvR.bind fun u => .ret (lf 5 (wr64 u) 0 em)
      else if k = 6 then txR.bind fun t => .ret (lf 6 0 0 t)
      else if k = 7 then txR.bind fun t => .ret (lf 7 0 0 t)
      else if k = 8 then lenR.bind fun n => (rdN (fun l => rdV d l) false n).bind fun q => .ret (nst 8 q)
      else if k = 9 then lenR.bind fun n => (rdN (fun l => rdV d l) true n).bind fun q => .ret (nst 9 q)
      else .no 3
/-! ### good readers -/
theorem good_uv : Good uvR := fun l u r ho h => by
  obtain ⟨rfl, hu⟩ := uv_inv ho h
  refine ⟨uv u, rfl, reads_uv u hu, fun c' m e hm => ?_⟩
  unfold uvR
  rw [ruv_short u 0 0 c' m (.inl rfl) (by simpa using hu) e hm]
  rfl
theorem good_take (n : Nat) : Good (takeR n) := fun l x r ho h => by
  unfold takeR at h
  split at h
  · cases h
  · next hl =>
    obtain ⟨rfl, rfl⟩ := Prod.mk.inj (Except.ok.inj h)
    have hn : (l.take n).length = n := by rw [List.length_take]; omega
    refine ⟨l.take n, (List.take_append_drop n l).symm, fun m => ?_, fun c' m e hm => ?_⟩
    · unfold takeR
      rw [if_neg (by rw [List.length_append, hn]; omega), List.take_left' hn, List.drop_left' hn]
    · unfold takeR
      rw [if_pos]
      have := congrArg List.length e
      rw [hn, List.length_append] at this
      have := List.length_pos_iff.2 hm
      omega
theorem good_len : Good lenR := good_bind good_uv fun u => good_if (good_no _) (good_ret _)
theorem good_tx : Good txR := good_bind good_len fun n => good_bind (good_take n) fun b => good_ret _
theorem good_N {g : Rdr Vt} (hg : Good g) (b : Bool) : ∀ n, Good (rdN g b n)
  | 0 => good_ret _
  | n + 1 => good_bind (good_N hg b n) fun q => good_if (good_bind good_tx fun s => good_bind hg fun v => good_ret _) (good_bind hg fun v => good_ret _)
theorem good_V : ∀ d, Good (rdV d)
  | 0 => good_no _
  | d + 1 => good_bind good_by fun k => good_if (good_ret _) (good_if (good_bind good_by fun x => good_if (good_no _) (good_ret _)) (good_if (good_bind good_uv fun u => good_ret _) (good_if (good_bind good_uv fun u => good_bind good_by fun x => good_ret _)
      (good_if (good_bind good_uv fun u => good_ret _) (good_if (good_bind good_tx fun t => good_ret _) (good_if (good_bind good_tx fun t => good_ret _) (good_if (good_bind good_len fun n => good_bind (good_N (good_V d) _ n) fun q => good_ret _)
      (good_if (good_bind good_len fun n => good_bind (good_N (good_V d) _ n) fun q => good_ret _) (good_no _)))))))))
/-! ### what is written is read -/
theorem reads_len (n : Nat) (h : n ≤ 65536) : Reads lenR (uv n) n := fun m => by
  unfold lenR
  rw [bind_ok (reads_uv n (by omega) m), if_neg (by omega)]
  rfl
theorem reads_tx (s : ByteArray) (h : s.size ≤ 65536) : Reads txR (txB s) s := by
  refine reads_bind (reads_len s.size h) fun m => ?_
  have e : takeR s.size (bts s ++ m) = .ok (bts s, m) := by
    unfold takeR
    rw [if_neg (by rw [List.length_append, bts_len]; omega), List.take_left' (bts_len s), List.drop_left' (bts_len s)]
  rw [bind_ok e, ofB_bts]
  rfl
theorem reads_by (x : Nat) : Reads byR [x] x := fun m => rfl
structure Fine (h : Hd) (kl : Nat) : Prop where
  form : formed h kl = true
  t : h.t.size ≤ 16384
  c : kl ≤ 200
  nm : h.k = 9 → named h.ns kl = true
theorem own_fine {h : Hd} {kl : Nat} (e : own h kl = 0) : Fine h kl := by
  unfold own at e
  split at e
  · next hf =>
    split at e
    · cases e
    · next h2 =>
      split at e
      · cases e
      · next h3 =>
        refine ⟨hf, by omega, by omega, fun h9 => ?_⟩
        cases hn : named h.ns kl with
        | true => rfl
        | false => exact absurd ⟨h9, hn⟩ h3
  · cases e
theorem em_of {t : ByteArray} (h : t.toList.isEmpty = true) : t = em := by
  rw [ByteArray.toList_eq] at h
  cases t with
  | mk d =>
    cases d with
    | mk l =>
      cases l with
      | nil => rfl
      | cons a l => simp at h
theorem fo_nil {f : Fo} (h : f.list.length = 0) : f = .nil := by
  cases f with
  | nil => rfl
  | cons h k r => simp [Fo.list] at h
/-- The parts that a kind has, and no others. -/
theorem leaf_of {p : Vt} {F : Int} (h : only p.1 p.2.list.length F = true) (hF : F ≠ 16) (hF2 : F ≠ 24) : p.1.ns = [] ∧ p.2 = .nil ∧ (F ≠ 4 → p.1.t = em) ∧ (F ≠ 3 → p.1.s = 0) ∧ (F ≠ 1 → F ≠ 3 → p.1.n = 0) := by
  simp only [only, Bool.and_eq_true, Bool.or_eq_true, decide_eq_true_eq] at h
  obtain ⟨⟨⟨⟨h1, h2⟩, h3⟩, h4⟩, h5⟩ := h
  refine ⟨?_, ?_, fun hf => ?_, fun hf => ?_, fun ha hb => ?_⟩
  · rcases h4 with h4 | h4
    · exact absurd h4 hF2
    · exact List.eq_nil_of_length_eq_zero h4
  · rcases h5 with (h5 | h5) | h5
    · exact absurd h5 hF
    · exact absurd h5 hF2
    · exact fo_nil h5
  · rcases h3 with h3 | h3
    · exact absurd h3 hf
    · exact em_of h3
  · rcases h2 with h2 | h2
    · exact absurd h2 hf
    · exact h2
  · rcases h1 with (h1 | h1) | h1
    · exact absurd h1 ha
    · exact absurd h1 hb
    · exact h1
end Go.Proofs.YtlefdnjokppibaaGreatDoor
namespace Go.Proofs.YtlefdnjokppibaaGreatDoor
open Go.RowKit Math
set_option linter.unusedVariables false
theorem rd_one (d : Nat) {k : Nat} {c : List Nat} {x : Vt} {f : Rdr Vt} (hf : ∀ l, rdV (d + 1) (k :: l) = f l) (h : Reads f c x) : Reads (rdV (d + 1)) (k :: c) x := fun m => by
  rw [List.cons_append, hf]; exact h m
theorem names_len {ns : List ByteArray} {kl : Nat} (h : named ns kl = true) : ns.length = kl ∧ ∀ x ∈ ns, x.size ≤ 40 := by
  simp only [named, Bool.and_eq_true, decide_eq_true_eq] at h
  refine ⟨h.1, ?_⟩
  have : ∀ (l : List ByteArray) (a : ByteArray), rises a l = true → ∀ x ∈ l, x.size ≤ 40 := by
    intro l
    induction l with
    | nil => intro a _ x hx; cases hx
    | cons y l ih =>
      intro a h x hx
      simp only [rises, Bool.and_eq_true, Bool.not_eq_true', decide_eq_false_iff_not] at h
      rcases List.mem_cons.1 hx with rfl | hx
      · omega
      · exact ih y h.2 x hx
  exact this ns _ h.2
theorem chk0_mem : ∀ {f : Fo} {p : Vt}, chk0 f = 0 → p ∈ f.list → chk0V p = 0
  | .cons h k r, p, hc, hp => by
    have e : chk0 (.cons h k r) = if chk0V (h, k) ≠ 0 then chk0V (h, k) else chk0 r := rfl
    rw [e] at hc
    by_cases h0 : chk0V (h, k) = 0
    · rw [if_neg (by simpa using h0)] at hc
      rcases List.mem_cons.1 hp with rfl | hp
      · exact h0
      · exact chk0_mem hc hp
    · rw [if_pos h0] at hc
      exact absurd hc h0
theorem dp_mem : ∀ {f : Fo} {p : Vt}, p ∈ f.list → dpV p ≤ dpF f
  | .cons h k r, p, hp => by
    simp only [dpF]
    rcases List.mem_cons.1 hp with rfl | hp
    · simp only [dpV]; omega
    · have := dp_mem hp; omega
/-- A row of values, each of which is read. -/
theorem reads_N {g : Rdr Vt} (b : Bool) : ∀ (f : Fo) (ns : List ByteArray), (∀ p ∈ f.list, Reads g (encV p) p) → (b = true → ns.length = f.list.length ∧ ∀ x ∈ ns, x.size ≤ 65536) → (b = false → ns = []) → Reads (rdN g b f.list.length) (enc f b ns) (f, ns) := by
  intro f
  induction f using Fo.ind with
  | h0 =>
    intro ns _ h1 h2
    have : ns = [] := by
      cases b
      · exact h2 rfl
      · exact List.eq_nil_of_length_eq_zero (by simpa [Fo.list] using (h1 rfl).1)
    subst this
    exact reads_ret _
  | h1 f p ih =>
    intro ns hg h1 h2
    have hl : (f.snoc p).list.length = f.list.length + 1 := by simp [snoc_list]
    rw [hl]
    have gp := hg p (by simp [snoc_list])
    have gf : ∀ q ∈ f.list, Reads g (encV q) q := fun q hq => hg q (by simp [snoc_list, hq])
    cases b
    · obtain rfl := h2 rfl
      have e := enc_snoc p em f false [] (by simp)
      simp only [Bool.false_eq_true, if_false, List.nil_append] at e
      rw [e]
      refine reads_bind (ih [] gf (by simp) (fun _ => rfl)) ?_
      simp only [Bool.false_eq_true, if_false]
      have := reads_bind (g := fun v => Rdr.ret (f.snoc v, ([] : List ByteArray))) gp (reads_ret (f.snoc p, []))
      rw [List.append_nil] at this
      exact this
    · obtain ⟨hn, hx⟩ := h1 rfl
      obtain ⟨ms, s, rfl⟩ : ∃ ms s, ns = ms ++ [s] := ⟨ns.dropLast, ns.getLast (by intro e; rw [e, hl] at hn; cases hn), (List.dropLast_concat_getLast _).symm⟩
      have hm : ms.length = f.list.length := by rw [hl] at hn; simpa using hn
      have e := enc_snoc p s f true ms (fun _ => hm)
      simp only [if_true] at e
      rw [e]
      refine reads_bind (ih ms gf (fun _ => ⟨hm, fun x h => hx x (by simp [h])⟩) (by simp)) ?_
      simp only [if_true]
      refine reads_bind (reads_tx s (hx s (by simp))) ?_
      have := reads_bind (g := fun v => Rdr.ret (f.snoc v, ms ++ [s])) gp (reads_ret (f.snoc p, ms ++ [s]))
      rw [List.append_nil] at this
      exact this
theorem vt_eq {p : Vt} {k n s : Int} {t : ByteArray} {ns : List ByteArray} {f : Fo} (h1 : p.1.k = k) (h2 : p.1.n = n) (h3 : p.1.s = s) (h4 : p.1.t = t) (h5 : p.1.ns = ns) (h6 : p.2 = f) : p = (⟨k, n, s, t, ns⟩, f) := by
  obtain ⟨⟨k1, n1, s1, t1, ns1⟩, f1⟩ := p
  simp only at h1 h2 h3 h4 h5 h6
  subst h1 h2 h3 h4 h5 h6
  rfl
theorem reads_end {α : Type} {f : Rdr α} {c : List Nat} {x : α} (h : Reads f c x) {β : Type} (y : β) : Reads (f.bind fun _ => .ret y) c y := by
  have := reads_bind h (g := fun _ => Rdr.ret y) (reads_ret y)
  rw [List.append_nil] at this
  exact this
theorem reads_to {α : Type} {f : Rdr α} {c : List Nat} {x : α} (h : Reads f c x) {β : Type} (q : α → β) : Reads (f.bind fun v => .ret (q v)) c (q x) := by
  have := reads_bind h (g := fun v => Rdr.ret (q v)) (reads_ret (q x))
  rw [List.append_nil] at this
  exact this
theorem zig_nat (n : Int) (h1 : -9223372036854775808 ≤ n) (h2 : n < 9223372036854775808) : (zigS n).toNat < 18446744073709551616 ∧ zagS ((zigS n).toNat : Int) = n := by
  have := zig_bd n h1 (by omega)
  refine ⟨by omega, ?_⟩
  rw [Int.toNat_of_nonneg this.1, zag_zig]
theorem reads_V : ∀ (d : Nat) (p : Vt), WfV p → dpV p ≤ d → chk0V p = 0 → Reads (rdV d) (encV p) p
  | 0, p, _, hd, _ => by simp [dpV] at hd
  | d + 1, p, hw, hd, hc => by
    have ho : own p.1 p.2.list.length = 0 := by
      apply Classical.byContradiction
      intro h
      rw [chk0V, if_pos h] at hc
      exact h hc
    have hk : chk0 p.2 = 0 := by
      rw [chk0V, if_neg (by simpa using ho)] at hc
      exact hc
    obtain ⟨hf, ht, hkl, hnm⟩ := own_fine ho
    have kids : ∀ q ∈ p.2.list, Reads (fun l => rdV d l) (encV q) q := fun q hq => reads_V d q (hw.kid hq) (by have := dp_mem hq; simp only [dpV] at hd this ⊢; omega) (chk0_mem hk hq)
    have z := zig_nat p.1.n hw.1.n0 hw.1.n1
    unfold formed at hf
    split at hf
    · next h =>
      obtain ⟨a1, a2, a3, a4, a5⟩ := leaf_of hf (by decide) (by decide)
      have e := vt_eq h (a5 (by decide) (by decide)) (a4 (by decide)) (a3 (by decide)) a1 a2
      rw [e]
      exact rd_one d (k := 1) (c := []) (fun l => rfl) (reads_ret _)
    split at hf
    · next _ h =>
      rw [Bool.and_eq_true] at hf
      obtain ⟨a1, a2, a3, a4, a5⟩ := leaf_of hf.1 (by decide) (by decide)
      have e := vt_eq h rfl (a4 (by decide)) (a3 (by decide)) a1 a2
      have hn : p.1.n = 0 ∨ p.1.n = 1 := by simpa using hf.2
      generalize p.1.n = n at *
      rw [e]
      rcases hn with rfl | rfl
      · exact rd_one d (k := 2) (c := [0]) (fun l => rfl) (reads_end (reads_by 0) _)
      · exact rd_one d (k := 2) (c := [1]) (fun l => rfl) (reads_end (reads_by 1) _)
    split at hf
    · next _ _ h =>
      obtain ⟨a1, a2, a3, a4, a5⟩ := leaf_of hf (by decide) (by decide)
      have e := vt_eq h rfl (a4 (by decide)) (a3 (by decide)) a1 a2
      generalize p.1.n = n at *
      rw [e]
      have := reads_to (reads_uv (zigS n).toNat z.1) (fun u : Nat => lf 3 (zagS u) 0 em)
      rw [z.2] at this
      have := rd_one d (k := 3) (c := uv (zigS n).toNat) (fun l => rfl) this
      simpa [encV, headB, bodyB, enc, lf] using this
    split at hf
    · next _ _ _ h =>
      simp only [Bool.and_eq_true, decide_eq_true_eq] at hf
      obtain ⟨⟨⟨b1, b2⟩, b3⟩, b4⟩ := hf
      obtain ⟨a1, a2, a3, a4, a5⟩ := leaf_of b1 (by decide) (by decide)
      have e := vt_eq h rfl rfl (a3 (by decide)) a1 a2
      generalize p.1.n = n at *
      obtain ⟨s, hs⟩ : ∃ s : Nat, p.1.s = s := ⟨p.1.s.toNat, by omega⟩
      rw [hs] at e
      rw [e]
      have := reads_bind (f := uvR) (g := fun u : Nat => byR.bind fun x : Nat => Rdr.ret (lf 4 (zagS u) x em)) (reads_uv (zigS n).toNat z.1) (reads_to (reads_by s) (fun x : Nat => lf 4 (zagS ((zigS n).toNat : Int)) x em))
      rw [z.2] at this
      have := rd_one d (k := 4) (fun l => rfl) this
      simpa [encV, headB, bodyB, enc, lf] using this
    split at hf
    · next _ _ _ _ h =>
      simp only [Bool.and_eq_true, decide_eq_true_eq] at hf
      obtain ⟨⟨b1, b2⟩, b3⟩ := hf
      obtain ⟨a1, a2, a3, a4, a5⟩ := leaf_of b1 (by decide) (by decide)
      have e := vt_eq h rfl (a4 (by decide)) (a3 (by decide)) a1 a2
      obtain ⟨n, hn⟩ : ∃ n : Nat, p.1.n = n := ⟨p.1.n.toNat, by omega⟩
      rw [hn] at e
      rw [e]
      have := reads_to (reads_uv n (by omega)) (fun u : Nat => lf 5 (wr64 u) 0 em)
      have w : wr64 n = (n : Int) := by unfold wr64; rw [if_pos (by omega)]
      rw [w] at this
      have := rd_one d (k := 5) (c := uv n) (fun l => rfl) this
      simpa [encV, headB, bodyB, enc, lf] using this
    split at hf
    · next _ _ _ _ _ h =>
      obtain ⟨a1, a2, a3, a4, a5⟩ := leaf_of hf (by decide) (by decide)
      have e := vt_eq h (a5 (by decide) (by decide)) (a4 (by decide)) rfl a1 a2
      generalize p.1.t = t at *
      rw [e]
      have := rd_one d (k := 6) (c := txB t) (fun l => rfl) (reads_to (reads_tx t (by omega)) (fun t => lf 6 0 0 t))
      simpa [encV, headB, bodyB, enc, lf] using this
    split at hf
    · next _ _ _ _ _ _ h =>
      obtain ⟨a1, a2, a3, a4, a5⟩ := leaf_of hf (by decide) (by decide)
      have e := vt_eq h (a5 (by decide) (by decide)) (a4 (by decide)) rfl a1 a2
      generalize p.1.t = t at *
      rw [e]
      have := rd_one d (k := 7) (c := txB t) (fun l => rfl) (reads_to (reads_tx t (by omega)) (fun t => lf 7 0 0 t))
      simpa [encV, headB, bodyB, enc, lf] using this
    split at hf
    · next _ _ _ _ _ _ _ h =>
      simp only [only, Bool.and_eq_true, Bool.or_eq_true, decide_eq_true_eq] at hf
      obtain ⟨⟨⟨⟨h1, h2⟩, h3⟩, h4⟩, h5⟩ := hf
      have e := vt_eq (n := 0) (s := 0) h (by omega) (by omega) (em_of (by simpa using h3)) (List.eq_nil_of_length_eq_zero (by omega)) rfl
      have r := reads_N false p.2 [] kids (by simp) (fun _ => rfl)
      generalize p.2 = f at *
      rw [e]
      have h1 := reads_to r (fun q => nst 8 q)
      have h2 := reads_bind (f := lenR) (g := fun n => (rdN (fun l => rdV d l) false n).bind fun q => .ret (nst 8 q)) (reads_len f.list.length (by omega)) h1
      have := rd_one d (k := 8) (fun l => rfl) h2
      simpa [encV, headB, bodyB, nst] using this
    split at hf
    · next _ _ _ _ _ _ _ _ h =>
      simp only [only, Bool.and_eq_true, Bool.or_eq_true, decide_eq_true_eq] at hf
      obtain ⟨⟨⟨⟨h1, h2⟩, h3⟩, h4⟩, h5⟩ := hf
      have e := vt_eq (n := 0) (s := 0) h (by omega) (by omega) (em_of (by simpa using h3)) rfl rfl
      obtain ⟨n1, n2⟩ := names_len (hnm h)
      have r := reads_N true p.2 p.1.ns kids (fun _ => ⟨n1, fun x hx => by have := n2 x hx; omega⟩) (by simp)
      generalize p.2 = f at *
      generalize p.1.ns = ns at *
      rw [e]
      have h1 := reads_to r (fun q => nst 9 q)
      have h2 := reads_bind (f := lenR) (g := fun n => (rdN (fun l => rdV d l) true n).bind fun q => .ret (nst 9 q)) (reads_len f.list.length (by omega)) h1
      have := rd_one d (k := 9) (fun l => rfl) h2
      simpa [encV, headB, bodyB, nst] using this
    · cases hf
end Go.Proofs.YtlefdnjokppibaaGreatDoor
namespace Go.Proofs.YtlefdnjokppibaaGreatDoor
open Go.RowKit Math
set_option linter.unusedVariables false
theorem by_inv {l r : List Nat} {x : Nat} (h : byR l = .ok (x, r)) : l = x :: r := by
  cases l with
  | nil => cases h
  | cons y l => obtain ⟨rfl, rfl⟩ := Prod.mk.inj (Except.ok.inj h); rfl
theorem len_inv {l r : List Nat} {n : Nat} (ho : Oct l) (h : lenR l = .ok (n, r)) : l = uv n ++ r ∧ n ≤ 65536 := by
  obtain ⟨u, m, h1, h2⟩ := bind_inv h
  obtain ⟨rfl, _⟩ := uv_inv ho h1
  split at h2
  · cases h2
  · obtain ⟨rfl, rfl⟩ := Prod.mk.inj (Except.ok.inj h2)
    exact ⟨rfl, by omega⟩
theorem tx_inv {l r : List Nat} {s : ByteArray} (ho : Oct l) (h : txR l = .ok (s, r)) : l = txB s ++ r ∧ s.size ≤ 65536 := by
  obtain ⟨n, m, h1, h2⟩ := bind_inv h
  obtain ⟨rfl, hn⟩ := len_inv ho h1
  obtain ⟨b, q, h3, h4⟩ := bind_inv h2
  unfold takeR at h3
  split at h3
  · cases h3
  · next hl =>
    obtain ⟨rfl, rfl⟩ := Prod.mk.inj (Except.ok.inj h3)
    obtain ⟨rfl, rfl⟩ := Prod.mk.inj (Except.ok.inj h4)
    have hs : (ofB (m.take n)).size = n := by rw [ofB_size, List.length_take]; omega
    have hb : bts (ofB (m.take n)) = m.take n := bts_ofB _ fun x hx => ho.right x (List.mem_of_mem_take hx)
    refine ⟨?_, by omega⟩
    unfold txB
    rw [hs, hb, List.append_assoc, List.take_append_drop]
theorem wf_snoc {p : Vt} (hp : WfV p) : ∀ {f : Fo}, Wf f → Wf (f.snoc p)
  | .nil, _ => ⟨hp, trivial⟩
  | .cons h k r, hf => ⟨hf.1, wf_snoc hp hf.2⟩
/-- What a reader of values finds. -/
structure Fnd (d : Nat) (l : List Nat) (p : Vt) (r : List Nat) : Prop where
  wf : WfV p
  dp : dpV p ≤ d
  wr : chk0V p = 0 → l = encV p ++ r
structure FndN (d : Nat) (b : Bool) (n : Nat) (l : List Nat) (f : Fo) (ns : List ByteArray) (r : List Nat) : Prop where
  len : f.list.length = n
  nl : ns.length = if b then n else 0
  nz : ∀ x ∈ ns, x.size ≤ 65536
  wf : Wf f
  dp : dpF f ≤ d
  wr : chk0 f = 0 → l = enc f b ns ++ r
theorem find_N {g : Rdr Vt} {d : Nat} (hg : Good g) (ih : ∀ l p r, Oct l → g l = .ok (p, r) → Fnd d l p r) (b : Bool) : ∀ (n : Nat) (l : List Nat) (f : Fo) (ns : List ByteArray) (r : List Nat), Oct l → rdN g b n l = .ok ((f, ns), r) → FndN d b n l f ns r
  | 0, l, f, ns, r, ho, h => by
    obtain ⟨e, rfl⟩ := Prod.mk.inj (Except.ok.inj h)
    obtain ⟨rfl, rfl⟩ := Prod.mk.inj e
    exact ⟨rfl, by simp, by simp, trivial, Nat.zero_le _, fun _ => rfl⟩
  | n + 1, l, f, ns, r, ho, h => by
    obtain ⟨⟨f0, ns0⟩, m, h1, h2⟩ := bind_inv h
    have A := find_N hg ih b n l f0 ns0 m ho h1
    obtain ⟨c, hc, _, _⟩ := good_N hg b n l _ m ho h1
    have hom : Oct m := by rw [hc] at ho; exact ho.right
    cases b
    · simp only [Bool.false_eq_true, if_false] at h2
      obtain ⟨v, q, h3, h4⟩ := bind_inv h2
      obtain ⟨e, rfl⟩ := Prod.mk.inj (Except.ok.inj h4)
      obtain ⟨rfl, rfl⟩ := Prod.mk.inj e
      have B := ih m v q hom h3
      refine ⟨by rw [snoc_list, List.length_append, A.len]; rfl, by simpa using A.nl, A.nz, wf_snoc B.wf A.wf, by rw [dp_snoc]; have := A.dp; have := B.dp; omega, fun hk => ?_⟩
      rw [chk0_snoc] at hk
      by_cases k0 : chk0 f0 = 0
      · rw [if_neg (by simpa using k0)] at hk
        have e := enc_snoc v em f0 false ns0 (by simp)
        simp only [Bool.false_eq_true, if_false, List.nil_append] at e
        rw [e, List.append_assoc, ← B.wr hk]
        exact A.wr k0
      · rw [if_pos k0] at hk
        exact absurd hk k0
    · simp only [if_true] at h2
      obtain ⟨s, m2, h5, h6⟩ := bind_inv h2
      obtain ⟨rfl, hs⟩ := tx_inv hom h5
      obtain ⟨v, q, h3, h4⟩ := bind_inv h6
      obtain ⟨e, rfl⟩ := Prod.mk.inj (Except.ok.inj h4)
      obtain ⟨rfl, rfl⟩ := Prod.mk.inj e
      have B := ih m2 v q hom.right h3
      have nl := A.nl
      simp only [if_true] at nl
      refine ⟨by rw [snoc_list, List.length_append, A.len]; rfl, by simp [nl], fun x hx => ?_, wf_snoc B.wf A.wf, by rw [dp_snoc]; have := A.dp; have := B.dp; omega, fun hk => ?_⟩
      · rcases List.mem_append.1 hx with hx | hx
        · exact A.nz x hx
        · have : x = s := by simpa using hx
          rw [this]; exact hs
      rw [chk0_snoc] at hk
      by_cases k0 : chk0 f0 = 0
      · rw [if_neg (by simpa using k0)] at hk
        have e := enc_snoc v s f0 true ns0 (fun _ => by rw [nl, A.len])
        simp only [if_true] at e
        rw [e, List.append_assoc, List.append_assoc, ← B.wr hk]
        exact A.wr k0
      · rw [if_pos k0] at hk
        exact absurd hk k0
theorem wf_lf (k n s : Int) (t : ByteArray) (hk : 0 ≤ k ∧ k < 256) (hn : -9223372036854775808 ≤ n ∧ n < 9223372036854775808) (hs : 0 ≤ s ∧ s < 256) (ht : t.size ≤ 65536) : WfV (lf k n s t) :=
  ⟨⟨by show (_ : Int) ≤ k; omega, by show k < _; omega, hn.1, hn.2, by show (_ : Int) ≤ s; omega, by show s < _; omega, by show t.size ≤ _; omega, by simp [lf], by simp [lf]⟩, by simp [lf, Fo.list], trivial⟩
theorem hok_nst (k : Int) (hk : 0 ≤ k ∧ k < 256) (f : Fo) (ns : List ByteArray) (h1 : ns.length ≤ 140737488355328) (h2 : ∀ x ∈ ns, x.size ≤ 140737488355328) : Hok (nst k (f, ns)).1 :=
  ⟨by show (_ : Int) ≤ k; omega, by show k < _; omega, by show (_ : Int) ≤ 0; decide, by show (0 : Int) < _; decide, by show (_ : Int) ≤ 0; decide, by show (0 : Int) < _; decide, by show em.size ≤ _; decide, h1, h2⟩
theorem own_of0 {p : Vt} (h : chk0V p = 0) : own p.1 p.2.list.length = 0 ∧ chk0 p.2 = 0 := by
  by_cases ho : own p.1 p.2.list.length = 0
  · rw [chk0V, if_neg (by simpa using ho)] at h
    exact ⟨ho, h⟩
  · rw [chk0V, if_pos ho] at h
    exact absurd h ho
theorem zag_nat {u : Nat} (hu : u < 18446744073709551616) : -9223372036854775808 ≤ zagS u ∧ zagS u < 9223372036854775808 ∧ (zigS (zagS u)).toNat = u := by
  have := zag_bd u (by omega) (by omega)
  refine ⟨this.1, by omega, ?_⟩
  rw [zig_zag u (by omega)]
  rfl
theorem wr_bd {u : Nat} (hu : u < 18446744073709551616) : -9223372036854775808 ≤ wr64 u ∧ wr64 u < 9223372036854775808 := by
  unfold wr64
  split <;> omega
theorem find_V : ∀ (d : Nat) (l : List Nat) (p : Vt) (r : List Nat), Oct l → rdV d l = .ok (p, r) → Fnd d l p r
  | 0, l, p, r, ho, h => by cases h
  | d + 1, l, p, r, ho, h => by
    obtain ⟨k, m, h1, h'⟩ := bind_inv h
    obtain rfl := by_inv h1
    clear h h1
    have h := h'
    clear h'
    have hk := ho k (by simp)
    have hom : Oct m := fun x hx => ho x (by simp [hx])
    have dl : ∀ (k n s : Int) (t : ByteArray), dpV (lf k n s t) ≤ d + 1 := fun k n s t => by simp [dpV, lf, dpF]
    split at h
    · next hk1 =>
      subst hk1
      obtain ⟨rfl, rfl⟩ := Prod.mk.inj (Except.ok.inj h)
      exact ⟨wf_lf 1 0 0 em (by omega) (by omega) (by omega) (by decide), dl _ _ _ _, fun _ => by simp [encV, headB, bodyB, enc, lf]⟩
    split at h
    · next _ hk1 =>
      subst hk1
      obtain ⟨x, q, h2, h'⟩ := bind_inv h
      clear h
      have h := h'
      clear h'
      obtain rfl := by_inv h2
      split at h
      · cases h
      · obtain ⟨rfl, rfl⟩ := Prod.mk.inj (Except.ok.inj h)
        exact ⟨wf_lf 2 x 0 em (by omega) (by omega) (by omega) (by decide), dl _ _ _ _, fun _ => by simp [encV, headB, bodyB, enc, lf]⟩
    split at h
    · next _ _ hk1 =>
      subst hk1
      obtain ⟨u, q, h2, h'⟩ := bind_inv h
      clear h
      have h := h'
      clear h'
      obtain ⟨rfl, hu⟩ := uv_inv hom h2
      obtain ⟨rfl, rfl⟩ := Prod.mk.inj (Except.ok.inj h)
      have z := zag_nat hu
      exact ⟨wf_lf 3 _ 0 em (by omega) ⟨z.1, z.2.1⟩ (by omega) (by decide), dl _ _ _ _, fun _ => by simp [encV, headB, bodyB, enc, lf, z.2.2]⟩
    split at h
    · next _ _ _ hk1 =>
      subst hk1
      obtain ⟨u, q, h2, h'⟩ := bind_inv h
      clear h
      have h := h'
      clear h'
      obtain ⟨rfl, hu⟩ := uv_inv hom h2
      obtain ⟨x, q2, h3, h'⟩ := bind_inv h
      clear h
      have h := h'
      clear h'
      obtain rfl := by_inv h3
      obtain ⟨rfl, rfl⟩ := Prod.mk.inj (Except.ok.inj h)
      have hx := hom x (by simp)
      have z := zag_nat hu
      exact ⟨wf_lf 4 _ x em (by omega) ⟨z.1, z.2.1⟩ (by omega) (by decide), dl _ _ _ _, fun _ => by simp [encV, headB, bodyB, enc, lf, z.2.2]⟩
    split at h
    · next _ _ _ _ hk1 =>
      subst hk1
      obtain ⟨u, q, h2, h'⟩ := bind_inv h
      clear h
      have h := h'
      clear h'
      obtain ⟨rfl, hu⟩ := uv_inv hom h2
      obtain ⟨rfl, rfl⟩ := Prod.mk.inj (Except.ok.inj h)
      refine ⟨wf_lf 5 _ 0 em (by omega) (wr_bd hu) (by omega) (by decide), dl _ _ _ _, fun hc => ?_⟩
      have hf := (own_fine (own_of0 hc).1).form
      have w0 : 0 ≤ wr64 u := by
        unfold formed at hf
        rw [if_neg (by simp [lf]), if_neg (by simp [lf]), if_neg (by simp [lf]), if_neg (by simp [lf]), if_pos (by simp [lf])] at hf
        rw [Bool.and_eq_true, Bool.and_eq_true] at hf
        exact of_decide_eq_true hf.1.2
      have w : wr64 u = (u : Int) := by
        unfold wr64 at w0 ⊢
        by_cases hu6 : u < 9223372036854775808
        · rw [if_pos hu6]
        · rw [if_neg hu6] at w0
          omega
      simp [encV, headB, bodyB, enc, lf, w]
    split at h
    · next _ _ _ _ _ hk1 =>
      subst hk1
      obtain ⟨t, q, h2, h'⟩ := bind_inv h
      clear h
      have h := h'
      clear h'
      obtain ⟨rfl, ht⟩ := tx_inv hom h2
      obtain ⟨rfl, rfl⟩ := Prod.mk.inj (Except.ok.inj h)
      exact ⟨wf_lf 6 0 0 t (by omega) (by omega) (by omega) ht, dl _ _ _ _, fun _ => by simp [encV, headB, bodyB, enc, lf]⟩
    split at h
    · next _ _ _ _ _ _ hk1 =>
      subst hk1
      obtain ⟨t, q, h2, h'⟩ := bind_inv h
      clear h
      have h := h'
      clear h'
      obtain ⟨rfl, ht⟩ := tx_inv hom h2
      obtain ⟨rfl, rfl⟩ := Prod.mk.inj (Except.ok.inj h)
      exact ⟨wf_lf 7 0 0 t (by omega) (by omega) (by omega) ht, dl _ _ _ _, fun _ => by simp [encV, headB, bodyB, enc, lf]⟩
    split at h
    · next _ _ _ _ _ _ _ hk1 =>
      subst hk1
      obtain ⟨n, q, h2, h'⟩ := bind_inv h
      clear h
      have h := h'
      clear h'
      obtain ⟨rfl, hn⟩ := len_inv hom h2
      obtain ⟨⟨f, ns⟩, q2, h3, h'⟩ := bind_inv h
      clear h
      have h := h'
      clear h'
      obtain ⟨rfl, rfl⟩ := Prod.mk.inj (Except.ok.inj h)
      have A := find_N (d := d) (good_V d) (fun l p r => find_V d l p r) false n q f ns q2 hom.right h3
      have hl := A.len
      have hns : ns = [] := List.eq_nil_of_length_eq_zero (by simpa using A.nl)
      subst hns
      refine ⟨⟨hok_nst 8 (by decide) f [] (by simp) (by simp), by show f.list.length ≤ _; omega, A.wf⟩, by show 1 + dpF f ≤ _; have := A.dp; omega, fun hc => ?_⟩
      have := A.wr (own_of0 hc).2
      conv => lhs; rw [this]
      simp [encV, headB, bodyB, nst, hl]
    split at h
    · next _ _ _ _ _ _ _ _ hk1 =>
      subst hk1
      obtain ⟨n, q, h2, h'⟩ := bind_inv h
      clear h
      have h := h'
      clear h'
      obtain ⟨rfl, hn⟩ := len_inv hom h2
      obtain ⟨⟨f, ns⟩, q2, h3, h'⟩ := bind_inv h
      clear h
      have h := h'
      clear h'
      obtain ⟨rfl, rfl⟩ := Prod.mk.inj (Except.ok.inj h)
      have A := find_N (d := d) (good_V d) (fun l p r => find_V d l p r) true n q f ns q2 hom.right h3
      have hl := A.len
      have hnl := A.nl
      simp only [if_true] at hnl
      refine ⟨⟨hok_nst 9 (by decide) f ns (by omega) (fun x hx => Nat.le_trans (A.nz x hx) (by decide)), by show f.list.length ≤ _; omega, A.wf⟩, by show 1 + dpF f ≤ _; have := A.dp; omega, fun hc => ?_⟩
      have := A.wr (own_of0 hc).2
      conv => lhs; rw [this]
      simp [encV, headB, bodyB, nst, hl]
    · cases h
/-! ### what follows -/
theorem enc_back (p : Vt) (hw : WfV p) (hc : chkV p 1 = 0) (m : List Nat) : rdV 16 (encV p ++ m) = .ok (p, m) := by
  have h1 := deepV_of p 1 hc
  rw [chkV_flat p 1 h1] at hc
  exact reads_V 16 p hw (by omega) hc m
theorem uv_oct' (u : Nat) : Oct (uv u) := uv_oct u
theorem tx_oct (s : ByteArray) : Oct (txB s) := (uv_oct' _).app (bts_oct s)
theorem one_oct {x : Nat} (h : x < 256) : Oct [x] := fun y hy => by
  have : y = x := by simpa using hy
  omega
theorem head_oct {h : Hd} {kl : Nat} (hf : own h kl = 0) : Oct (headB h kl) := by
  have hfm := (own_fine hf).form
  have hk : 1 ≤ h.k ∧ h.k ≤ 9 := by
    unfold formed at hfm
    repeat' split at hfm
    all_goals first | omega | cases hfm
  intro x hx
  rcases List.mem_cons.1 hx with rfl | hx
  · omega
  unfold bodyB at hx
  unfold formed at hfm
  split at hx
  · next h2 =>
    simp only [h2, Int.reduceEq, if_false, if_true, Bool.and_eq_true, Bool.or_eq_true, beq_iff_eq] at hfm
    exact one_oct (by omega) x hx
  split at hx
  · exact uv_oct _ x hx
  split at hx
  · next h4 =>
    simp only [h4, Int.reduceEq, if_false, if_true, Bool.and_eq_true, decide_eq_true_eq] at hfm
    exact (uv_oct' _).app (one_oct (by omega)) x hx
  split at hx
  · exact uv_oct _ x hx
  split at hx
  · exact tx_oct _ x hx
  split at hx
  · exact tx_oct _ x hx
  split at hx
  · exact uv_oct _ x hx
  split at hx
  · exact uv_oct _ x hx
  · cases hx
theorem enc_oct : ∀ (f : Fo) (b : Bool) (ns : List ByteArray), chk0 f = 0 → Oct (enc f b ns)
  | .nil, _, _, _ => fun x hx => by cases hx
  | .cons h k r, b, ns, hc => by
    have c1 := chk0_mem (p := (h, k)) hc (by simp [Fo.list])
    have c2 : chk0 r = 0 := by
      have e : chk0 (.cons h k r) = if chk0V (h, k) ≠ 0 then chk0V (h, k) else chk0 r := rfl
      rw [e, if_neg (by simpa using c1)] at hc
      exact hc
    obtain ⟨a, b'⟩ := own_of0 c1
    refine Oct.app (Oct.app ?_ ((head_oct a).app (enc_oct k _ _ b'))) (enc_oct r b _ c2)
    cases b
    · intro x hx; cases hx
    · exact tx_oct _
theorem encV_oct (p : Vt) (hc : chk0V p = 0) : Oct (encV p) := (head_oct (own_of0 hc).1).app (enc_oct _ _ _ (own_of0 hc).2)
end Go.Proofs.YtlefdnjokppibaaGreatDoor
