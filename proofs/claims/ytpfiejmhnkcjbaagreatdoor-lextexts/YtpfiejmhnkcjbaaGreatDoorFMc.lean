/-
  Texts, Blobs, Lists and Structs, while they are read: plain mathematics.
-/
import Derived.Test.YtpfiejmhnkcjbaaGreatDoorFMb
namespace Go.Proofs.YtpfiejmhnkcjbaaGreatDoor
open Go.RowKit Math
set_option linter.unusedVariables false
set_option linter.unusedSimpArgs false
/-! ### hexadecimal digits -/
def isHx (c : Nat) : Bool := decide ((48 ≤ c ∧ c ≤ 57) ∨ (97 ≤ c ∧ c ≤ 102))
theorem hxd_is {n : Nat} (h : n < 16) : isHx (hxd n) = true := by
  unfold isHx hxd
  simp only [decide_eq_true_eq]
  split <;> omega
theorem hxd_inj {m n : Nat} (hm : m < 16) (hn : n < 16) (h : hxd m = hxd n) : m = n := by
  unfold hxd at h
  split at h <;> split at h <;> omega
/-- A digit. -/
abbrev Rh (l : List Nat) (bad : Bool) (l' : List Nat) (bad' : Bool) (c : Nat) : Prop := Rt (fun c : Nat => [hxd c]) (fun c _ => c < 16) l bad l' bad' c
/-- Two digits. -/
abbrev Rp (l : List Nat) (bad : Bool) (l' : List Nat) (bad' : Bool) (c : Nat) : Prop := Rt pX (fun c _ => c < 256) l bad l' bad' c
theorem rp_of {l l1 l2 : List Nat} {bad bad1 bad2 : Bool} {a b c : Nat} (R1 : Rh l bad l1 bad1 a) (R2 : Rh l1 bad1 l2 bad2 b) (hc : c = a * 16 + b) : Rp l bad l2 bad2 c := by
  refine ⟨suf_trans R1.suf R2.suf, fun h => R2.st (R1.st h), fun hb y m hy e => ?_⟩
  obtain ⟨a1, a2, a3⟩ := R1.co hb (y / 16) ([hxd (y % 16)] ++ m) (by omega) e
  obtain ⟨b1, b2, b3⟩ := R2.co a1 (y % 16) m (by omega) a3
  exact ⟨b1, by omega, b3⟩
/-! ### a Text -/
structure Tx (l : List Nat) (bad : Bool) (lk : List Nat) (badk : Bool) (acc : List Nat) : Prop where
  suf : ∃ c, l = c ++ lk
  st : bad = true → badk = true
  co : bad = false → ∀ (y : ByteArray) m, (∀ t, m ≠ 39 :: t) → l = pQ y ++ m → badk = false ∧ ∃ y2, bts y = acc ++ y2 ∧ lk = pS y2 ++ (39 :: m)
  pr : badk = false → acc.length + 1 + lk.length ≤ l.length
  oc : Oct acc
theorem Tx.start {l l1 : List Nat} {bad bad1 : Bool} (R : Rm [39] l bad l1 bad1) (hp : bad1 = false → 1 + l1.length ≤ l.length) : Tx l bad l1 bad1 [] :=
  ⟨R.suf, R.st, fun hb y m hm e => by
    obtain ⟨a1, _, a3⟩ := R.co hb () (pS (bts y) ++ ([39] ++ m)) trivial (by rw [e]; simp [pQ])
    exact ⟨a1, bts y, rfl, by rw [a3]; rfl⟩, fun h => by have := hp h; simp only [List.length_nil]; omega, fun x hx => by cases hx⟩
theorem pE_cases (c : Nat) : (c = 39 ∧ pE c = [39, 39]) ∨ (c ≠ 39 ∧ pE c = 92 :: pX c) ∨ (c ≠ 39 ∧ c ≠ 92 ∧ pE c = [c]) := by
  unfold pE
  by_cases h : c = 39
  · exact .inl ⟨h, by rw [if_pos h]⟩
  by_cases h2 : c < 32 ∨ 126 < c ∨ c = 92
  · exact .inr (.inl ⟨h, by rw [if_neg h, if_pos h2]⟩)
  · exact .inr (.inr ⟨h, fun e => h2 (.inr (.inr e)), by rw [if_neg h, if_neg h2]⟩)
section
variable {l lk l1 l2 : List Nat} {bad badk bad2 : Bool} {acc : List Nat}
theorem Tx.quote (h : Tx l bad lk badk acc) (e : lk = 39 :: 39 :: l2) : Tx l bad l2 badk (acc ++ [39]) := by
  refine ⟨suf_trans h.suf ⟨[39, 39], by rw [e]; rfl⟩, h.st, fun hb y m hm el => ?_, fun hp => ?_, h.oc.app (fun x hx => by simp at hx; omega)⟩
  · obtain ⟨a1, y2, a2, a3⟩ := h.co hb y m hm el
    refine ⟨a1, ?_⟩
    cases y2 with
    | nil =>
      rw [e] at a3
      injection a3 with _ a3
      exact absurd a3.symm (hm l2)
    | cons c y3 =>
      rw [e] at a3
      have a3 : 39 :: 39 :: l2 = (pE c ++ pS y3) ++ (39 :: m) := a3
      rcases pE_cases c with ⟨rfl, hc⟩ | ⟨hc, h2⟩ | ⟨hc, _, h2⟩
      · rw [hc] at a3
        injection a3 with _ a3
        injection a3 with _ a3
        exact ⟨y3, by rw [a2]; simp, a3⟩
      · rw [h2] at a3
        injection a3 with a3 _
        cases a3
      · rw [h2] at a3
        injection a3 with a3 _
        exact absurd a3.symm hc
  · have := h.pr hp
    rw [e] at this
    simp only [List.length_append, List.length_cons, List.length_nil] at this ⊢
    omega
theorem Tx.done (h : Tx l bad lk badk acc) (e : lk = 39 :: l1) (hn : ∀ t, l1 ≠ 39 :: t) : Rt pQ (fun _ m => ∀ t, m ≠ 39 :: t) l bad l1 badk (ofB acc) := by
  refine ⟨suf_trans h.suf ⟨[39], by rw [e]; rfl⟩, h.st, fun hb y m hm el => ?_⟩
  obtain ⟨a1, y2, a2, a3⟩ := h.co hb y m hm el
  refine ⟨a1, ?_⟩
  cases y2 with
  | nil =>
    rw [e] at a3
    injection a3 with _ a3
    rw [List.append_nil] at a2
    exact ⟨by rw [← a2, ofB_bts], a3⟩
  | cons c y3 =>
    exfalso
    rw [e] at a3
    have a3 : 39 :: l1 = (pE c ++ pS y3) ++ (39 :: m) := a3
    rcases pE_cases c with ⟨rfl, hc⟩ | ⟨hc, h2⟩ | ⟨hc, _, h2⟩
    · rw [hc] at a3
      injection a3 with _ a3
      exact hn _ a3
    · rw [h2] at a3
      injection a3 with a3 _
      cases a3
    · rw [h2] at a3
      injection a3 with a3 _
      exact absurd a3.symm hc
theorem Tx.esc {x : Nat} (h : Tx l bad lk badk acc) (e : lk = 92 :: l1) (R : Rp l1 badk l2 bad2 x) (hx : x < 256) (hp : bad2 = false → 1 + l2.length ≤ l1.length) : Tx l bad l2 bad2 (acc ++ [x]) := by
  refine ⟨suf_trans h.suf (suf_trans ⟨[92], by rw [e]; rfl⟩ R.suf), fun hb => R.st (h.st hb), fun hb y m hm el => ?_, fun hq => ?_, h.oc.app (fun z hz => by simp at hz; omega)⟩
  · obtain ⟨a1, y2, a2, a3⟩ := h.co hb y m hm el
    cases y2 with
    | nil =>
      rw [e] at a3
      injection a3 with a3 _
      cases a3
    | cons c y3 =>
      rw [e] at a3
      have a3 : 92 :: l1 = (pE c ++ pS y3) ++ (39 :: m) := a3
      have hc2 : c < 256 := bts_oct y c (by rw [a2]; simp)
      rcases pE_cases c with ⟨rfl, hc⟩ | ⟨hc, h2⟩ | ⟨hc, h9, h2⟩
      · rw [hc] at a3
        injection a3 with a3 _
        cases a3
      · rw [h2] at a3
        injection a3 with _ a3
        obtain ⟨b1, b2, b3⟩ := R.co a1 c (pS y3 ++ (39 :: m)) hc2 (by rw [a3]; simp)
        exact ⟨b1, y3, by rw [a2, b2]; simp, b3⟩
      · rw [h2] at a3
        injection a3 with a3 _
        exact absurd a3.symm h9
  · have h1 := h.pr (R.stay hq)
    have h2 := hp hq
    rw [e] at h1
    simp only [List.length_append, List.length_cons, List.length_nil] at h1 ⊢
    omega
theorem Tx.plain {x : Nat} (h : Tx l bad lk badk acc) (e : lk = x :: l1) (h39 : x ≠ 39) (h92 : x ≠ 92) (hx : x < 256) : Tx l bad l1 badk (acc ++ [x]) := by
  refine ⟨suf_trans h.suf ⟨[x], by rw [e]; rfl⟩, h.st, fun hb y m hm el => ?_, fun hq => ?_, h.oc.app (fun z hz => by simp at hz; omega)⟩
  · obtain ⟨a1, y2, a2, a3⟩ := h.co hb y m hm el
    refine ⟨a1, ?_⟩
    cases y2 with
    | nil =>
      rw [e] at a3
      injection a3 with a3 _
      exact absurd a3 h39
    | cons c y3 =>
      rw [e] at a3
      have a3 : x :: l1 = (pE c ++ pS y3) ++ (39 :: m) := a3
      rcases pE_cases c with ⟨rfl, hc⟩ | ⟨hc, h2⟩ | ⟨hc, _, h2⟩
      · rw [hc] at a3
        injection a3 with a3 _
        exact absurd a3 h39
      · rw [h2] at a3
        injection a3 with a3 _
        exact absurd a3 h92
      · rw [h2] at a3
        injection a3 with a3 a4
        exact ⟨y3, by rw [a2, a3]; simp, a4⟩
  · have h1 := h.pr hq
    rw [e] at h1
    simp only [List.length_append, List.length_cons, List.length_nil] at h1 ⊢
    omega
theorem Tx.none (h : Tx l bad [] badk acc) (z : ByteArray) : Rt pQ (fun _ m => ∀ t, m ≠ 39 :: t) l bad [] true z :=
  ⟨h.suf, fun _ => rfl, fun hb y m hm el => by
    obtain ⟨a1, y2, a2, a3⟩ := h.co hb y m hm el
    exfalso
    have := congrArg List.length a3
    simp at this⟩
theorem Tx.isBad (h : Tx l bad lk true acc) (z : ByteArray) : Rt pQ (fun _ m => ∀ t, m ≠ 39 :: t) l bad lk true z :=
  ⟨h.suf, fun _ => rfl, fun hb y m hm el => by
    have := (h.co hb y m hm el).1
    cases this⟩
end
/-! ### a Blob -/
structure Bx (l : List Nat) (bad : Bool) (lk : List Nat) (badk : Bool) (acc : List Nat) : Prop where
  suf : ∃ c, l = c ++ lk
  st : bad = true → badk = true
  co : bad = false → ∀ (y : ByteArray) m, Stp m → l = pB y ++ m → badk = false ∧ ∃ y2, bts y = acc ++ y2 ∧ lk = pY y2 ++ m
  pr : badk = false → acc.length + 1 + lk.length ≤ l.length
  oc : Oct acc
theorem Bx.start {l l1 : List Nat} {bad bad1 : Bool} (R : Rm [35] l bad l1 bad1) (hp : bad1 = false → 1 + l1.length ≤ l.length) : Bx l bad l1 bad1 [] :=
  ⟨R.suf, R.st, fun hb y m hm e => by
    obtain ⟨a1, _, a3⟩ := R.co hb () (pY (bts y) ++ m) trivial (by rw [e]; simp [pB])
    exact ⟨a1, bts y, rfl, a3⟩, fun h => by have := hp h; simp only [List.length_nil]; omega, fun x hx => by cases hx⟩
theorem stp_hx {c : Nat} {t m : List Nat} (hm : Stp m) (h : isHx c = true) : m ≠ c :: t := fun e => by
  unfold isHx at h
  simp only [decide_eq_true_eq] at h
  rcases hm with rfl | ⟨d, t', rfl, hd⟩
  · cases e
  · injection e with e _
    omega
section
variable {l lk l1 l2 : List Nat} {bad badk bad2 : Bool} {acc : List Nat}
theorem Bx.step {x c : Nat} {t : List Nat} (h : Bx l bad lk badk acc) (e : lk = c :: t) (hc : isHx c = true) (R : Rp lk badk l2 bad2 x) (hx : x < 256) (hp : bad2 = false → 1 + l2.length ≤ lk.length) : Bx l bad l2 bad2 (acc ++ [x]) := by
  refine ⟨suf_trans h.suf R.suf, fun hb => R.st (h.st hb), fun hb y m hm el => ?_, fun hq => ?_, h.oc.app (fun z hz => by simp at hz; omega)⟩
  · obtain ⟨a1, y2, a2, a3⟩ := h.co hb y m hm el
    cases y2 with
    | nil => exact absurd (a3.symm.trans e) (stp_hx hm hc)
    | cons d y3 =>
      have hd : d < 256 := bts_oct y d (by rw [a2]; simp)
      obtain ⟨b1, b2, b3⟩ := R.co a1 d (pY y3 ++ m) hd (by rw [a3]; simp [pY])
      exact ⟨b1, y3, by rw [a2, b2]; simp, b3⟩
  · have h1 := h.pr (R.stay hq)
    have h2 := hp hq
    simp only [List.length_append, List.length_cons, List.length_nil]
    omega
theorem Bx.done (h : Bx l bad lk badk acc) (e : ∀ c t, lk = c :: t → isHx c = false) : Rt pB (fun _ m => Stp m) l bad lk badk (ofB acc) := by
  refine ⟨h.suf, h.st, fun hb y m hm el => ?_⟩
  obtain ⟨a1, y2, a2, a3⟩ := h.co hb y m hm el
  refine ⟨a1, ?_⟩
  cases y2 with
  | nil =>
    rw [List.append_nil] at a2
    exact ⟨by rw [← a2, ofB_bts], a3⟩
  | cons d y3 =>
    have hd : d < 256 := bts_oct y d (by rw [a2]; simp)
    have := e (hxd (d / 16)) ([hxd (d % 16)] ++ pY y3 ++ m) (by rw [a3]; simp [pY, pX])
    rw [hxd_is (by omega)] at this
    cases this
end
/-! ### Lists and Structs -/
def endc (b : Bool) : Nat := if b then 125 else 93
structure NxOk (b : Bool) (d : Int) (x : Fo × List ByteArray) : Prop where
  wf : Wf x.1
  ck : chk x.1 (d + 1) = 0
  ln : b = true → x.2.length = x.1.list.length
  no : b = false → x.2 = []
def encX (b : Bool) (x : Fo × List ByteArray) : List Nat := prF x.1 b x.2 true ++ [endc b]
structure Nx (b : Bool) (d : Int) (l : List Nat) (bad : Bool) (lk : List Nat) (badk : Bool) (f : Fo) (ns : List ByteArray) : Prop where
  suf : ∃ c, l = c ++ lk
  st : bad = true → badk = true
  co : bad = false → ∀ (x : Fo × List ByteArray) m, NxOk b d x → Stp m → l = encX b x ++ m → badk = false ∧ ∃ g ms, x.1 = f.app9 g ∧ x.2 = ns ++ ms ∧ lk = prF g b ms (decide (f.list.length = 0)) ++ (endc b :: m) ∧ Wf g ∧ chk g (d + 1) = 0 ∧ (b = true → ms.length = g.list.length)
  ln : b = true → ns.length = f.list.length
  no : b = false → ns = []
  pr : badk = false → f.ws + ns.length + lk.length ≤ l.length
theorem Nx.start (b : Bool) (d : Int) (l : List Nat) (bad : Bool) : Nx b d l bad l bad .nil [] :=
  ⟨⟨[], rfl⟩, id, fun h x m hx hm hl => ⟨h, x.1, x.2, rfl, rfl, by rw [hl]; simp [encX, Fo.list], hx.wf, hx.ck, hx.ln⟩, fun _ => rfl, fun _ => rfl, fun _ => by simp [Fo.ws]⟩
theorem stp_rest (b : Bool) (g : Fo) (ms : List ByteArray) (m : List Nat) : Stp (prF g b ms false ++ (endc b :: m)) := by
  cases g with
  | nil => exact .inr ⟨endc b, m, rfl, by unfold endc; cases b <;> simp⟩
  | cons h k r => exact .inr ⟨44, _, rfl, .inl rfl⟩
section
variable {b : Bool} {d : Int} {l lk l1 l2 l3 l4 : List Nat} {bad badk bad1 bad2 bad3 bad4 : Bool} {f : Fo} {ns : List ByteArray} {v : Vt}
theorem snoc_nz (p : Vt) (f : Fo) : decide ((f.snoc p).list.length = 0) = false := by
  rw [snoc_list]
  simp
theorem ws_pos (p : Vt) : 1 ≤ ws p := by unfold ws wsH; omega
/-- A value more, in a List. -/
theorem Nx.kid (h : Nx false d l bad lk badk f []) (hne : ∀ t, lk ≠ 93 :: t) (R1 : Rm (if f.list.length = 0 then [] else [44, 32]) lk badk l1 bad1) (R : Vx (d + 1) l1 bad1 l2 bad2 v) : Nx false d l bad l2 bad2 (f.snoc v) [] := by
  refine ⟨suf_trans h.suf (suf_trans R1.suf R.rt.suf), fun hb => R.rt.st (R1.st (h.st hb)), fun hb x m hx hm hl => ?_, fun e => (by cases e), fun _ => rfl, fun hq => ?_⟩
  · obtain ⟨a1, g, ms, e1, e2, e3, e4, e5, e6⟩ := h.co hb x m hx hm hl
    cases g with
    | nil => exact absurd e3 (hne m)
    | cons hd k r =>
      obtain ⟨w1, w2⟩ := wfc9 e4
      obtain ⟨c1, c2⟩ := chkc9 e5
      rw [prF_cons (hd, k)] at e3
      simp only [Bool.false_eq_true, if_false, List.nil_append, List.append_assoc] at e3
      obtain ⟨r1, _, r3⟩ := R1.co a1 () (prV (hd, k) ++ (prF r false ms.tail false ++ (endc false :: m))) trivial (by
        rw [e3]
        by_cases h0 : f.list.length = 0 <;> simp [h0])
      obtain ⟨s1, s2, s3⟩ := R.rt.co r1 (hd, k) _ ⟨w1, c1, stp_rest _ _ _ _⟩ r3
      refine ⟨s1, r, [], by rw [e1, s2, app9_snoc], by rw [hx.no rfl]; rfl, ?_, w2, c2, fun e => by cases e⟩
      rw [s3, snoc_nz, prF_false r ms.tail []]
  · have h1 := h.pr (R1.stay (R.rt.stay hq))
    have h2 := R1.len
    have h3 := R.pr hq
    rw [ws_snoc]
    simp only [List.length_nil] at h1 ⊢
    omega
/-- A field more, in a Struct: its name, its value. -/
theorem Nx.field {s : ByteArray} (h : Nx true d l bad lk badk f ns) (hne : ∀ t, lk ≠ 125 :: t) (R1 : Rm (if f.list.length = 0 then [] else [44, 32]) lk badk l1 bad1) (R2 : Rt pQ (fun _ m => ∀ t, m ≠ 39 :: t) l1 bad1 l2 bad2 s) (hp : bad2 = false → 1 + l2.length ≤ l1.length) (R3 : Rm [58, 32] l2 bad2 l3 bad3) (R : Vx (d + 1) l3 bad3 l4 bad4 v) : Nx true d l bad l4 bad4 (f.snoc v) (ns ++ [s]) := by
  refine ⟨suf_trans h.suf (suf_trans R1.suf (suf_trans R2.suf (suf_trans R3.suf R.rt.suf))), fun hb => R.rt.st (R3.st (R2.st (R1.st (h.st hb)))), fun hb x m hx hm hl => ?_, fun _ => by rw [snoc_list, List.length_append, List.length_append, h.ln rfl]; rfl, fun e => (by cases e), fun hq => ?_⟩
  · obtain ⟨a1, g, ms, e1, e2, e3, e4, e5, e6⟩ := h.co hb x m hx hm hl
    cases g with
    | nil => exact absurd e3 (hne m)
    | cons hd k r =>
      cases ms with
      | nil => have := e6 rfl; simp [Fo.list] at this
      | cons n ms =>
        obtain ⟨w1, w2⟩ := wfc9 e4
        obtain ⟨c1, c2⟩ := chkc9 e5
        rw [prF_cons (hd, k)] at e3
        simp only [if_true, List.headD_cons, List.tail_cons, List.append_assoc] at e3
        obtain ⟨r1, _, r3⟩ := R1.co a1 () (pQ n ++ ([58, 32] ++ (prV (hd, k) ++ (prF r true ms false ++ (endc true :: m))))) trivial (by
          rw [e3]
          by_cases h0 : f.list.length = 0 <;> simp [h0])
        obtain ⟨s1, s2, s3⟩ := R2.co r1 n _ (fun t e => by cases e) r3
        obtain ⟨t1, _, t3⟩ := R3.co s1 () _ trivial s3
        obtain ⟨u1, u2, u3⟩ := R.rt.co t1 (hd, k) _ ⟨w1, c1, stp_rest _ _ _ _⟩ t3
        refine ⟨u1, r, ms, by rw [e1, u2, app9_snoc], by rw [e2, s2]; simp, by rw [u3, snoc_nz], w2, c2, fun _ => ?_⟩
        have := e6 rfl
        simpa [Fo.list] using this
  · have b3 := R.rt.stay hq
    have b2 := R3.stay b3
    have h1 := h.pr (R1.stay (R2.stay b2))
    have h2 := R1.len
    have h3 := R.pr hq
    have h4 := hp b2
    have h5 := R3.len
    rw [ws_snoc]
    simp only [List.length_append, List.length_singleton]
    omega
/-- The end. -/
theorem Nx.done (h : Nx b d l bad lk badk f ns) (e : lk = endc b :: l1) : Rt (encX b) (fun x m => NxOk b d x ∧ Stp m) l bad l1 badk (f, ns) := by
  refine ⟨suf_trans h.suf ⟨[endc b], by rw [e]; rfl⟩, h.st, fun hb x m ⟨hx, hm⟩ hl => ?_⟩
  obtain ⟨a1, g, ms, e1, e2, e3, e4, e5, e6⟩ := h.co hb x m hx hm hl
  refine ⟨a1, ?_⟩
  cases g with
  | nil =>
    rw [e] at e3
    injection e3 with _ e3
    have hms : ms = [] := by
      cases b with
      | true => exact List.eq_nil_of_length_eq_zero (e6 rfl)
      | false =>
        have := hx.no rfl
        rw [e2] at this
        exact (List.append_eq_nil_iff.1 this).2
    rw [app9_nil] at e1
    rw [hms, List.append_nil] at e2
    obtain ⟨x1, x2⟩ := x
    simp only at e1 e2
    exact ⟨by rw [e1, e2], e3⟩
  | cons hd k r =>
    exfalso
    rw [e, prF_cons (hd, k)] at e3
    obtain ⟨w1, w2⟩ := wfc9 e4
    obtain ⟨c1, c2⟩ := chkc9 e5
    obtain ⟨c, t, hc, hf⟩ := pr_first w1 c1
    by_cases h0 : f.list.length = 0
    · cases b with
      | true =>
        simp only [h0, decide_true, if_true, List.nil_append, pQ, List.cons_append] at e3
        injection e3 with e3 _
        cases e3
      | false =>
        rw [hc] at e3
        simp only [h0, decide_true, if_true, List.nil_append, Bool.false_eq_true, if_false, List.cons_append] at e3
        injection e3 with e3 _
        unfold fst9 at hf
        unfold endc at e3
        simp at e3
        omega
    · simp only [h0, decide_false, Bool.false_eq_true, if_false, List.cons_append] at e3
      injection e3 with e3 _
      unfold endc at e3
      cases b <;> simp at e3
/-- Something was bad. -/
theorem Nx.isBad (h : Nx b d l bad lk true f ns) (y : Fo × List ByteArray) : Rt (encX b) (fun x m => NxOk b d x ∧ Stp m) l bad lk true y :=
  ⟨h.suf, fun _ => rfl, fun hb x m ⟨hx, hm⟩ hl => by have := (h.co hb x m hx hm hl).1; cases this⟩
/-- No mark between. -/
theorem Nx.brk (h : Nx b d l bad lk badk f ns) (hne : ∀ t, lk ≠ endc b :: t) (R1 : Rm (if f.list.length = 0 then [] else [44, 32]) lk badk l1 true) (y : Fo × List ByteArray) : Rt (encX b) (fun x m => NxOk b d x ∧ Stp m) l bad l1 true y := by
  refine ⟨suf_trans h.suf R1.suf, fun _ => rfl, fun hb x m ⟨hx, hm⟩ hl => ?_⟩
  obtain ⟨a1, g, ms, e1, e2, e3, e4, e5, e6⟩ := h.co hb x m hx hm hl
  cases g with
  | nil => exact absurd e3 (hne m)
  | cons hd k r =>
    rw [prF_cons (hd, k)] at e3
    have := (R1.co a1 () (((if b then pQ (ms.headD ⟨#[]⟩) ++ [58, 32] else []) ++ (prV (hd, k) ++ prF r b ms.tail false)) ++ (endc b :: m)) trivial (by
      rw [e3]
      by_cases h0 : f.list.length = 0 <;> simp [h0])).1
    cases this
/-- A List, a Struct: the value that is read. -/
theorem vx_nest {k : Int} {c : Nat} {t : List Nat} {x : Fo × List ByteArray} (hkc : (k = 8 ∧ b = false ∧ c = 91) ∨ (k = 9 ∧ b = true ∧ c = 123)) (R1 : Rm [c] (c :: t) bad l1 bad1) (R2 : Rt (encX b) (fun x m => NxOk b d x ∧ Stp m) l1 bad1 l2 bad2 x) (hp : bad2 = false → x.1.ws + x.2.length + 1 + l2.length ≤ (c :: t).length) : Vx d (c :: t) bad l2 bad2 (nst k x) := by
  refine ⟨⟨suf_trans R1.suf R2.suf, fun hb => R2.st (R1.st hb), fun hb y m ⟨w1, hc, hst⟩ e => ?_⟩, fun hb => ?_⟩
  · have hf := first_of w1 hc e
    obtain ⟨_, ho, hck⟩ := ckv9 hc
    have fn := own_fine ho
    obtain ⟨hk, a1, a2, a3, a4, a5⟩ := form9 fn.1
    have k1 : y.1.k = k := by unfold fst9 at hf; omega
    have ey : y = nst k (y.2, y.1.ns) := by
      refine Prod.ext (hd9 k1 (a1 (by omega) (by omega) (by omega) (by omega)) (a2 (by omega)) (a3 (by omega) (by omega)) rfl) rfl
    have ep : prV y = [c] ++ encX b (y.2, y.1.ns) := by
      unfold prV pH encX
      rcases hkc with ⟨rfl, rfl, rfl⟩ | ⟨rfl, rfl, rfl⟩
      · simp [k1, endc]
      · simp [k1, endc]
    rw [ep, List.append_assoc] at e
    obtain ⟨b1, _, b3⟩ := R1.co hb () _ trivial e
    have hok : NxOk b d (y.2, y.1.ns) := by
      refine ⟨w1.2.2, hck, fun hbb => ?_, fun hbb => ?_⟩
      · have k9 : y.1.k = 9 := by
          rcases hkc with ⟨_, e, _⟩ | ⟨e, _⟩
          · rw [e] at hbb; cases hbb
          · omega
        exact (names_len (fn.nm k9)).1
      · have k8 : y.1.k = 8 := by
          rcases hkc with ⟨e, _⟩ | ⟨_, e, _⟩
          · omega
          · rw [e] at hbb; cases hbb
        exact a4 (by omega)
    obtain ⟨c1, c2, c3⟩ := R2.co b1 _ m ⟨hok, hst⟩ b3
    exact ⟨c1, by rw [c2]; exact ey.symm, c3⟩
  · have := hp hb
    show wsH _ + x.1.ws + _ ≤ _
    have e : wsH (nst k x).1 = 1 + 0 + x.2.length := by
      show 1 + em.size / 20 + x.2.length = _
      rw [show em.size = 0 from rfl]
    rw [e]
    omega
end
end Go.Proofs.YtpfiejmhnkcjbaaGreatDoor
