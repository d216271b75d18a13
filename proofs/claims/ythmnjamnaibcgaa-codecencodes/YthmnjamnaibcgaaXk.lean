/-
  codec.Decode and codec.Read, from what value answers at the beginning.
-/
import Derived.Test.YthmnjamnaibcgaaXj
namespace Go.Proofs.Ythmnjamnaibcgaa
open Go.RowKit Math
set_option linter.unusedVariables false
set_option linter.unusedSimpArgs false
/-- No value. -/
def noV : Vt := lf 0 0 0 em
def decE (L : List Nat) : Int := match rdV 16 L with
  | .error e => (e : Int)
  | .ok (p, rest) => if chk0V p ≠ 0 then chk0V p else if rest ≠ [] then 3 else if 65536 < L.length then 5 else 0
def decP (L : List Nat) : Vt := match rdV 16 L with
  | .error _ => noV
  | .ok (p, _) => if decE L = 0 then p else noV
def reaE (L : List Nat) : Int := match rdV 16 L with
  | .error e => (e : Int)
  | .ok (p, rest) => if chk0V p ≠ 0 then chk0V p else if 65536 < L.length - rest.length then 5 else 0
def reaP (L : List Nat) : Vt := match rdV 16 L with
  | .error _ => noV
  | .ok (p, _) => if reaE L = 0 then p else noV
def reaN (L : List Nat) : Nat := match rdV 16 L with
  | .error _ => 0
  | .ok (_, rest) => if reaE L = 0 then L.length - rest.length else 0
theorem dec_no {L : List Nat} {p : Vt} {j : Nat} {E : Int} (h : Fst L p j E) (hE : E ≠ 0) : decE L = E ∧ decP L = noV := by
  rcases h with ⟨e, h1, h2, h3⟩ | ⟨h1, h2, h3⟩
  · unfold decP decE
    rw [h1]
    exact ⟨h2.symm, rfl⟩
  · have e : decE L = E := by
      unfold decE
      rw [h1]
      simp only
      rw [← h3, if_pos hE]
    refine ⟨e, ?_⟩
    unfold decP
    rw [h1]
    simp only
    rw [e, if_neg hE]
theorem rea_no {L : List Nat} {p : Vt} {j : Nat} {E : Int} (h : Fst L p j E) (hE : E ≠ 0) : reaE L = E ∧ reaP L = noV ∧ reaN L = 0 := by
  rcases h with ⟨e, h1, h2, h3⟩ | ⟨h1, h2, h3⟩
  · unfold reaP reaN reaE
    rw [h1]
    exact ⟨h2.symm, rfl, rfl⟩
  · have e : reaE L = E := by
      unfold reaE
      rw [h1]
      simp only
      rw [← h3, if_pos hE]
    refine ⟨e, ?_, ?_⟩
    · unfold reaP
      rw [h1]
      simp only
      rw [e, if_neg hE]
    · unfold reaN
      rw [h1]
      simp only
      rw [e, if_neg hE]
theorem fst_yes {L : List Nat} {p : Vt} {j : Nat} (h : Fst L p j 0) : rdV 16 L = .ok (p, L.drop j) ∧ chk0V p = 0 := by
  rcases h with ⟨e, h1, h2, h3⟩ | ⟨h1, h2, h3⟩
  · omega
  · exact ⟨h1, h3.symm⟩
theorem dec_more {L : List Nat} {p : Vt} {j : Nat} (h : Fst L p j 0) (hj : j < L.length) : decE L = 3 ∧ decP L = noV := by
  obtain ⟨h1, h2⟩ := fst_yes h
  have e : decE L = 3 := by
    unfold decE
    rw [h1]
    simp only
    rw [if_neg (by simpa using h2), if_pos (by intro c; have := congrArg List.length c; simp at this; omega)]
  refine ⟨e, ?_⟩
  unfold decP
  rw [h1]
  simp only
  rw [e]
  rfl
theorem dec_long {L : List Nat} {p : Vt} {j : Nat} (h : Fst L p j 0) (hj : L.length ≤ j) (hl : 65536 < L.length) : decE L = 5 ∧ decP L = noV := by
  obtain ⟨h1, h2⟩ := fst_yes h
  have e : decE L = 5 := by
    unfold decE
    rw [h1]
    simp only
    rw [if_neg (by simpa using h2), if_neg (by rw [List.drop_of_length_le hj]; simp), if_pos hl]
  refine ⟨e, ?_⟩
  unfold decP
  rw [h1]
  simp only
  rw [e]
  rfl
theorem dec_yes {L : List Nat} {p : Vt} {j : Nat} (h : Fst L p j 0) (hj : L.length ≤ j) (hl : ¬ 65536 < L.length) : decE L = 0 ∧ decP L = p := by
  obtain ⟨h1, h2⟩ := fst_yes h
  have e : decE L = 0 := by
    unfold decE
    rw [h1]
    simp only
    rw [if_neg (by simpa using h2), if_neg (by rw [List.drop_of_length_le hj]; simp), if_neg hl]
  refine ⟨e, ?_⟩
  unfold decP
  rw [h1]
  simp only
  rw [e]
  rfl
theorem rea_long {L : List Nat} {p : Vt} {j : Nat} (h : Fst L p j 0) (hj : j ≤ L.length) (hl : 65536 < j) : reaE L = 5 ∧ reaP L = noV ∧ reaN L = 0 := by
  obtain ⟨h1, h2⟩ := fst_yes h
  have e : reaE L = 5 := by
    unfold reaE
    rw [h1]
    simp only
    rw [if_neg (by simpa using h2), if_pos (by rw [List.length_drop]; omega)]
  refine ⟨e, ?_, ?_⟩
  · unfold reaP
    rw [h1]
    simp only
    rw [e]
    rfl
  · unfold reaN
    rw [h1]
    simp only
    rw [e]
    rfl
theorem rea_yes {L : List Nat} {p : Vt} {j : Nat} (h : Fst L p j 0) (hj : j ≤ L.length) (hl : ¬ 65536 < j) : reaE L = 0 ∧ reaP L = p ∧ reaN L = j := by
  obtain ⟨h1, h2⟩ := fst_yes h
  have e : reaE L = 0 := by
    unfold reaE
    rw [h1]
    simp only
    rw [if_neg (by simpa using h2), if_neg (by rw [List.length_drop]; omega)]
  refine ⟨e, ?_, ?_⟩
  · unfold reaP
    rw [h1]
    simp only
    rw [e]
    rfl
  · unfold reaN
    rw [h1]
    simp only
    rw [e, if_pos rfl, List.length_drop]
    omega
/-- A value that is new, and what is as it was. -/
structure New1 (W w' : World) (p : Vt) (na : Option Addr) (nc : Nat) (ka : Option Addr) (kc : Nat) : Prop where
  vl : ∃ Lp, VlL w' p na nc ka kc Lp ∧ ∀ x ∈ Lp, W.heap.size ≤ x ∧ x < w'.heap.size
  wf : WfV p
  bl : Below W.heap.size W w'
theorem New1.none {W w' : World} (h : Below W.heap.size W w') : New1 W w' noV none 0 none 0 :=
  ⟨⟨[], vl_lf w' 0 0 0 em, by simp⟩, wf_lf 0 0 0 em (by omega) (by omega) (by omega) (by decide), h⟩
set_option maxRecDepth 8000 in
set_option maxHeartbeats 1000000 in
theorem decode_any (L : List Nat) (V : ValL L) (ab : Option Addr) (cb : Nat) (W : World) (hB : Byt W ab L) (hO : Oct L) (hlen : L.length ≤ 1000000) (hcap : L.length ≤ cb) (hcm : cb ≤ 9223372036854775807) (hnil : ab = none → cb = 0) :
    Calls Try.prog 20 #[.slice ab L.length cb] W fun e w' => ∃ na nc ka kc, e = .returned (.tuple #[.agg #[.int .i64 (decP L).1.k, .int .i64 (decP L).1.n, .int .i64 (decP L).1.s, .string (decP L).1.t, .slice na (decP L).1.ns.length nc, .slice ka (decP L).2.list.length kc], .int .i64 (decE L)]) ∧ Hid (New1 W w' (decP L) na nc ka kc) := by
  have HA : Hid (ValL L ∧ Byt W ab L ∧ Oct L ∧ (ab = none → cb = 0)) := ⟨V, hB, hO, hnil⟩
  clear hB hO hnil V
  go_enter Try.func20, Try.ntmps20
  go_wp2_with (refine al_zero rfl 25 rfl zer z25 ?_)
  intro g2 w1 hg2 B2 gr2
  have G1 : Hid (Below W.heap.size W w1) := (Below.refl _ _).grown gr2 (Nat.le_refl _) (fun k e => by cases e)
  have HB2 : Hid (Blk w1 g2 25 zer) := B2
  have KF := first_any L HA.out.1 ab cb w1 (HA.out.2.1.below G1.out) HA.out.2.2.1 hlen hcap hcm HA.out.2.2.2
  clear B2 gr2
  go_wp2_with fail
  refine KF.mono ?_
  clear KF HA
  rintro e w3 ⟨p, na, nc, ka, kc, j, E, rfl, H3⟩
  go_wp2_with (refine al_zero rfl 25 rfl zer z25 ?_)
  intro g4 w4 hg4 B4 gr4
  go_wp2_with (refine st_all rfl 25 (.tmp 4) (.tmp 10) rfl g4 25 zer (six p.1 na nc ka p.2.list.length kc) rfl rfl B4 rfl s25 (six_one _ _ _ _ _ _) ?_)
  intro w5 B5 gr5
  have G5 : Hid (Below w3.heap.size w3 w5) := below_new gr4 hg4 gr5
  have GW5 : Hid (Below W.heap.size W w5) := by
    have h3 := G1.out.trans (H3.out.bl.mono G1.out.size)
    exact h3.trans (G5.out.mono h3.size)
  have HB5 : Hid (Blk w5 g2 25 zer) := by
    have b3 := HB2.out.below H3.out.bl HB2.out.lt
    exact b3.below G5.out b3.lt
  have HB4 : Hid (Blk w5 g4 25 (six p.1 na nc ka p.2.list.length kc)) := B5
  have h2l : g2 < w1.heap.size := HB2.out.lt
  have HV5 : Hid ((∃ Lp, VlL w5 p na nc ka kc Lp ∧ ∀ x ∈ Lp, W.heap.size ≤ x ∧ x < w5.heap.size ∧ x ≠ g2) ∧ WfV p) := by
    refine ⟨?_, H3.out.wf⟩
    obtain ⟨Lp, a1, a2⟩ := H3.out.vl
    refine ⟨Lp, a1.keep fun x hx => G5.out.block x (a2 x hx).2, fun x hx => ?_⟩
    have := a2 x hx
    have := G5.out.size
    have := G1.out.size
    omega
  have HF : Hid (Fst L p j E) := H3.out.fst
  have hj : j ≤ L.length := H3.out.le
  clear B4 gr4 gr5 B5 G5 H3 HB2 G1
  by_cases hE : E = 0
  case neg =>
    have hEb : (E != 0) = true := by simpa using hE
    go_wp2_with (refine st_all rfl 25 (.tmp 2) (.tmp 15) rfl g2 25 zer zer rfl rfl HB5.out rfl s25 (by simp [zer, Value.oneCell']) ?_)
    intro w6 B6 gr6
    have HN : Hid (New1 W w6 noV none 0 none 0) := .none (GW5.out.grown gr6 GW5.out.size (fun x e => by injection e with e; omega))
    have HB6 : Hid (Blk w6 g2 25 zer) := B6
    clear B6 gr6
    have HD := dec_no HF.out hE
    go_wp2
    refine bodyPost_ret (res_two rfl _ g2 25 _ _ rfl HB6.out Try.underlying25 rfl s25) rfl ?_
    rw [HD.1, HD.2]
    exact ⟨none, 0, none, 0, rfl, HN.out⟩
  subst hE
  have hEb : ((0 : Int) != 0) = false := rfl
  by_cases hjl : j < L.length
  · have hjb : decide ((j : Int) < (L.length : Int)) = true := by simp; omega
    go_wp2_with (refine st_all rfl 25 (.tmp 2) (.tmp 21) rfl g2 25 zer zer rfl rfl HB5.out rfl s25 (by simp [zer, Value.oneCell']) ?_)
    intro w6 B6 gr6
    have HN : Hid (New1 W w6 noV none 0 none 0) := .none (GW5.out.grown gr6 GW5.out.size (fun x e => by injection e with e; omega))
    have HB6 : Hid (Blk w6 g2 25 zer) := B6
    clear B6 gr6
    have HD := dec_more HF.out hjl
    go_wp2
    refine bodyPost_ret (res_two rfl _ g2 25 _ _ rfl HB6.out Try.underlying25 rfl s25) rfl ?_
    rw [HD.1, HD.2]
    exact ⟨none, 0, none, 0, rfl, HN.out⟩
  have hjb : decide ((j : Int) < (L.length : Int)) = false := by simp; omega
  by_cases hl : 65536 < L.length
  · have hlb : decide ((65536 : Int) < (j : Int)) = true := by simp; omega
    go_wp2_with (refine st_all rfl 25 (.tmp 2) (.tmp 24) rfl g2 25 zer zer rfl rfl HB5.out rfl s25 (by simp [zer, Value.oneCell']) ?_)
    intro w6 B6 gr6
    have HN : Hid (New1 W w6 noV none 0 none 0) := .none (GW5.out.grown gr6 GW5.out.size (fun x e => by injection e with e; omega))
    have HB6 : Hid (Blk w6 g2 25 zer) := B6
    clear B6 gr6
    have HD := dec_long HF.out (by omega) hl
    go_wp2
    refine bodyPost_ret (res_two rfl _ g2 25 _ _ rfl HB6.out Try.underlying25 rfl s25) rfl ?_
    rw [HD.1, HD.2]
    exact ⟨none, 0, none, 0, rfl, HN.out⟩
  have hlb : decide ((65536 : Int) < (j : Int)) = false := by simp; omega
  have c0 : w5.cell? ⟨g4, 0, none⟩ = some (.int .i64 p.1.k) := HB4.out.cell 0
  have c1 : w5.cell? ⟨g4, 1, none⟩ = some (.int .i64 p.1.n) := HB4.out.cell 1
  have c2 : w5.cell? ⟨g4, 2, none⟩ = some (.int .i64 p.1.s) := HB4.out.cell 2
  have c3 : w5.cell? ⟨g4, 3, none⟩ = some (.string p.1.t) := HB4.out.cell 3
  have c4 : w5.cell? ⟨g4, 4, none⟩ = some (.slice na p.1.ns.length nc) := HB4.out.cell 4
  have c5 : w5.cell? ⟨g4, 5, none⟩ = some (.slice ka p.2.list.length kc) := HB4.out.cell 5
  go_wp2_with (refine st_all rfl 25 (.tmp 2) (.tmp 25) rfl g2 25 zer (six p.1 na nc ka p.2.list.length kc) rfl rfl HB5.out rfl s25 (six_one _ _ _ _ _ _) ?_)
  intro w6 B6 gr6
  have HN : Hid (New1 W w6 p na nc ka kc) := by
    obtain ⟨Lp, a1, a2⟩ := HV5.out.1
    refine ⟨⟨Lp, a1.keep fun x hx => ?_, fun x hx => ?_⟩, HV5.out.2, GW5.out.grown gr6 GW5.out.size (fun x e => by injection e with e; omega)⟩
    · have := a2 x hx
      exact gr6.block x this.2.1 (by intro c; injection c with c; omega)
    · have := a2 x hx
      have := gr6.size
      omega
  have HB6 : Hid (Blk w6 g2 25 (six p.1 na nc ka p.2.list.length kc)) := B6
  clear B6 gr6 c0 c1 c2 c3 c4 c5
  have HD := dec_yes HF.out (by omega) hl
  go_wp2
  refine bodyPost_ret (res_two rfl _ g2 25 _ _ rfl HB6.out Try.underlying25 rfl s25) rfl ?_
  rw [HD.1, HD.2]
  exact ⟨na, nc, ka, kc, rfl, HN.out⟩
end Go.Proofs.Ythmnjamnaibcgaa
