/-
  codec.Decode and codec.Read, from what value answers at the beginning. · The law package's same, at any two rows, and known. · codec's reader: value, at any depth; what Decode and Read answer of any bytes that end early enough. · The law CodecOne, walked. · What the law CodecBack leans on.
-/
import Derived.Test.YtmbglggodifboaaGreatDoorSG27x
import Derived.Test.YtmbglggodifboaaGreatDoorSG10x
import Derived.Test.YtmbglggodifboaaGreatDoorSG3x
import Derived.Test.YtmbglggodifboaaGreatDoorSXp
import Derived.Test.YtmbglggodifboaaGreatDoorSEql
import Derived.Test.YtmbglggodifboaaGreatDoorSG5x
namespace Go.Proofs.YtmbglggodifboaaGreatDoor
open Go.RowKit Math
set_option linter.unusedVariables false
set_option linter.unusedSimpArgs false
/-- No value. -/
def noV : Vt := lf 0 0 0 em
def decE (L : List Nat) : Int := match rdV 16 L with
  | .error e => (e : Int)
  | .ok (p, rest) => if chk0V p ≠ 0 then chk0V p else if rest ≠ [] then 3 else if 65536 < L.length then 5 else 0
def decP (L : List Nat) : Vt := match rdV 16 L with
  | .error _ => noV
  | .ok (p, _) => if decE L = 0 then p else noV
theorem dec_no {L : List Nat} {p : Vt} {j : Nat} {E : Int} (h : Fst L p j E) (hE : E ≠ 0) : decE L = E ∧ decP L = noV := by
  rcases h with ⟨e, h1, h2, h3⟩ | ⟨h1, h2, h3⟩
  · unfold decP decE
    rw [h1]
    exact ⟨h2.symm, rfl⟩
  · have e : decE L = E := by
      unfold decE
      rw [h1]
      simp only
      rw [← h3, if_pos hE]
    refine ⟨e, ?_⟩
    unfold decP
    rw [h1]
    simp only
    rw [e, if_neg hE]
theorem fst_yes {L : List Nat} {p : Vt} {j : Nat} (h : Fst L p j 0) : rdV 16 L = .ok (p, L.drop j) ∧ chk0V p = 0 := by
  rcases h with ⟨e, h1, h2, h3⟩ | ⟨h1, h2, h3⟩
  · omega
  · exact ⟨h1, h3.symm⟩
theorem dec_more {L : List Nat} {p : Vt} {j : Nat} (h : Fst L p j 0) (hj : j < L.length) : decE L = 3 ∧ decP L = noV := by
  obtain ⟨h1, h2⟩ := fst_yes h
  have e : decE L = 3 := by
    unfold decE
    rw [h1]
    simp only
    rw [if_neg (by simpa using h2), if_pos (by intro c; have := congrArg List.length c; simp at this; omega)]
  refine ⟨e, ?_⟩
  unfold decP
  rw [h1]
  simp only
  rw [e]
  rfl
theorem dec_long {L : List Nat} {p : Vt} {j : Nat} (h : Fst L p j 0) (hj : L.length ≤ j) (hl : 65536 < L.length) : decE L = 5 ∧ decP L = noV := by
  obtain ⟨h1, h2⟩ := fst_yes h
  have e : decE L = 5 := by
    unfold decE
    rw [h1]
    simp only
    rw [if_neg (by simpa using h2), if_neg (by rw [List.drop_of_length_le hj]; simp), if_pos hl]
  refine ⟨e, ?_⟩
  unfold decP
  rw [h1]
  simp only
  rw [e]
  rfl
theorem dec_yes {L : List Nat} {p : Vt} {j : Nat} (h : Fst L p j 0) (hj : L.length ≤ j) (hl : ¬ 65536 < L.length) : decE L = 0 ∧ decP L = p := by
  obtain ⟨h1, h2⟩ := fst_yes h
  have e : decE L = 0 := by
    unfold decE
    rw [h1]
    simp only
    rw [if_neg (by simpa using h2), if_neg (by rw [List.drop_of_length_le hj]; simp), if_neg hl]
  refine ⟨e, ?_⟩
  unfold decP
  rw [h1]
  simp only
  rw [e]
  rfl
/-- A value that is new, and what is as it was. -/
structure New1 (W w' : World) (p : Vt) (na : Option Addr) (nc : Nat) (ka : Option Addr) (kc : Nat) : Prop where
  vl : ∃ Lp, VlL w' p na nc ka kc Lp ∧ ∀ x ∈ Lp, W.heap.size ≤ x ∧ x < w'.heap.size
  wf : WfV p
  bl : Below W.heap.size W w'
theorem New1.none {W w' : World} (h : Below W.heap.size W w') : New1 W w' noV none 0 none 0 :=
  ⟨⟨[], vl_lf w' 0 0 0 em, by simp⟩, wf_lf 0 0 0 em (by omega) (by omega) (by omega) (by decide), h⟩
set_option maxRecDepth 8000 in
set_option maxHeartbeats 1000000 in
theorem decode_any (L : List Nat) (V : ValL L) (ab : Option Addr) (cb : Nat) (W : World) (hB : Byt W ab L) (hO : Oct L) (hlen : L.length ≤ 1000000) (hcap : L.length ≤ cb) (hcm : cb ≤ 9223372036854775807) (hnil : ab = none → cb = 0) :
    Calls Tryz.prog 124 #[.slice ab L.length cb] W fun e w' => ∃ na nc ka kc, e = .returned (.tuple #[.agg #[.int .i64 (decP L).1.k, .int .i64 (decP L).1.n, .int .i64 (decP L).1.s, .string (decP L).1.t, .slice na (decP L).1.ns.length nc, .slice ka (decP L).2.list.length kc], .int .i64 (decE L)]) ∧ Hid (New1 W w' (decP L) na nc ka kc) := by
  have HA : Hid (ValL L ∧ Byt W ab L ∧ Oct L ∧ (ab = none → cb = 0)) := ⟨V, hB, hO, hnil⟩
  clear hB hO hnil V
  go_enter Tryz.func124, Tryz.ntmps124
  go_wp2_with (refine al_zero rfl 41 rfl zer z25 ?_)
  intro g2 w1 hg2 B2 gr2
  have G1 : Hid (Below W.heap.size W w1) := (Below.refl _ _).grown gr2 (Nat.le_refl _) (fun k e => by cases e)
  have HB2 : Hid (Blk w1 g2 41 zer) := B2
  have KF := first_any L HA.out.1 ab cb w1 (HA.out.2.1.below G1.out) HA.out.2.2.1 hlen hcap hcm HA.out.2.2.2
  clear B2 gr2
  go_wp2_with fail
  refine KF.mono ?_
  clear KF HA
  rintro e w3 ⟨p, na, nc, ka, kc, j, E, rfl, H3⟩
  go_wp2_with (refine al_zero rfl 41 rfl zer z25 ?_)
  intro g4 w4 hg4 B4 gr4
  go_wp2_with (refine st_all rfl 41 (.tmp 4) (.tmp 10) rfl g4 41 zer (six p.1 na nc ka p.2.list.length kc) rfl rfl B4 rfl s25 (six_one _ _ _ _ _ _) ?_)
  intro w5 B5 gr5
  have G5 : Hid (Below w3.heap.size w3 w5) := below_new gr4 hg4 gr5
  have GW5 : Hid (Below W.heap.size W w5) := by
    have h3 := G1.out.trans (H3.out.bl.mono G1.out.size)
    exact h3.trans (G5.out.mono h3.size)
  have HB5 : Hid (Blk w5 g2 41 zer) := by
    have b3 := HB2.out.below H3.out.bl HB2.out.lt
    exact b3.below G5.out b3.lt
  have HB4 : Hid (Blk w5 g4 41 (six p.1 na nc ka p.2.list.length kc)) := B5
  have h2l : g2 < w1.heap.size := HB2.out.lt
  have HV5 : Hid ((∃ Lp, VlL w5 p na nc ka kc Lp ∧ ∀ x ∈ Lp, W.heap.size ≤ x ∧ x < w5.heap.size ∧ x ≠ g2) ∧ WfV p) := by
    refine ⟨?_, H3.out.wf⟩
    obtain ⟨Lp, a1, a2⟩ := H3.out.vl
    refine ⟨Lp, a1.keep fun x hx => G5.out.block x (a2 x hx).2, fun x hx => ?_⟩
    have := a2 x hx
    have := G5.out.size
    have := G1.out.size
    omega
  have HF : Hid (Fst L p j E) := H3.out.fst
  have hj : j ≤ L.length := H3.out.le
  clear B4 gr4 gr5 B5 G5 H3 HB2 G1
  by_cases hE : E = 0
  case neg =>
    have hEb : (E != 0) = true := by simpa using hE
    go_wp2_with (refine st_all rfl 41 (.tmp 2) (.tmp 15) rfl g2 41 zer zer rfl rfl HB5.out rfl s25 (by simp [zer, Value.oneCell']) ?_)
    intro w6 B6 gr6
    have HN : Hid (New1 W w6 noV none 0 none 0) := .none (GW5.out.grown gr6 GW5.out.size (fun x e => by injection e with e; omega))
    have HB6 : Hid (Blk w6 g2 41 zer) := B6
    clear B6 gr6
    have HD := dec_no HF.out hE
    go_wp2
    refine bodyPost_ret (res_two rfl _ g2 41 _ _ rfl HB6.out Tryz.underlying41 rfl s25) rfl ?_
    rw [HD.1, HD.2]
    exact ⟨none, 0, none, 0, rfl, HN.out⟩
  subst hE
  have hEb : ((0 : Int) != 0) = false := rfl
  by_cases hjl : j < L.length
  · have hjb : decide ((j : Int) < (L.length : Int)) = true := by simp; omega
    go_wp2_with (refine st_all rfl 41 (.tmp 2) (.tmp 21) rfl g2 41 zer zer rfl rfl HB5.out rfl s25 (by simp [zer, Value.oneCell']) ?_)
    intro w6 B6 gr6
    have HN : Hid (New1 W w6 noV none 0 none 0) := .none (GW5.out.grown gr6 GW5.out.size (fun x e => by injection e with e; omega))
    have HB6 : Hid (Blk w6 g2 41 zer) := B6
    clear B6 gr6
    have HD := dec_more HF.out hjl
    go_wp2
    refine bodyPost_ret (res_two rfl _ g2 41 _ _ rfl HB6.out Tryz.underlying41 rfl s25) rfl ?_
    rw [HD.1, HD.2]
    exact ⟨none, 0, none, 0, rfl, HN.out⟩
  have hjb : decide ((j : Int) < (L.length : Int)) = false := by simp; omega
  by_cases hl : 65536 < L.length
  · have hlb : decide ((65536 : Int) < (j : Int)) = true := by simp; omega
    go_wp2_with (refine st_all rfl 41 (.tmp 2) (.tmp 24) rfl g2 41 zer zer rfl rfl HB5.out rfl s25 (by simp [zer, Value.oneCell']) ?_)
    intro w6 B6 gr6
    have HN : Hid (New1 W w6 noV none 0 none 0) := .none (GW5.out.grown gr6 GW5.out.size (fun x e => by injection e with e; omega))
    have HB6 : Hid (Blk w6 g2 41 zer) := B6
    clear B6 gr6
    have HD := dec_long HF.out (by omega) hl
    go_wp2
    refine bodyPost_ret (res_two rfl _ g2 41 _ _ rfl HB6.out Tryz.underlying41 rfl s25) rfl ?_
    rw [HD.1, HD.2]
    exact ⟨none, 0, none, 0, rfl, HN.out⟩
  have hlb : decide ((65536 : Int) < (j : Int)) = false := by simp; omega
  have c0 : w5.cell? ⟨g4, 0, none⟩ = some (.int .i64 p.1.k) := HB4.out.cell 0
  have c1 : w5.cell? ⟨g4, 1, none⟩ = some (.int .i64 p.1.n) := HB4.out.cell 1
  have c2 : w5.cell? ⟨g4, 2, none⟩ = some (.int .i64 p.1.s) := HB4.out.cell 2
  have c3 : w5.cell? ⟨g4, 3, none⟩ = some (.string p.1.t) := HB4.out.cell 3
  have c4 : w5.cell? ⟨g4, 4, none⟩ = some (.slice na p.1.ns.length nc) := HB4.out.cell 4
  have c5 : w5.cell? ⟨g4, 5, none⟩ = some (.slice ka p.2.list.length kc) := HB4.out.cell 5
  go_wp2_with (refine st_all rfl 41 (.tmp 2) (.tmp 25) rfl g2 41 zer (six p.1 na nc ka p.2.list.length kc) rfl rfl HB5.out rfl s25 (six_one _ _ _ _ _ _) ?_)
  intro w6 B6 gr6
  have HN : Hid (New1 W w6 p na nc ka kc) := by
    obtain ⟨Lp, a1, a2⟩ := HV5.out.1
    refine ⟨⟨Lp, a1.keep fun x hx => ?_, fun x hx => ?_⟩, HV5.out.2, GW5.out.grown gr6 GW5.out.size (fun x e => by injection e with e; omega)⟩
    · have := a2 x hx
      exact gr6.block x this.2.1 (by intro c; injection c with c; omega)
    · have := a2 x hx
      have := gr6.size
      omega
  have HB6 : Hid (Blk w6 g2 41 (six p.1 na nc ka p.2.list.length kc)) := B6
  clear B6 gr6 c0 c1 c2 c3 c4 c5
  have HD := dec_yes HF.out (by omega) hl
  go_wp2
  refine bodyPost_ret (res_two rfl _ g2 41 _ _ rfl HB6.out Tryz.underlying41 rfl s25) rfl ?_
  rw [HD.1, HD.2]
  exact ⟨na, nc, ka, kc, rfl, HN.out⟩
end Go.Proofs.YtmbglggodifboaaGreatDoor
namespace Go.Proofs.YtmbglggodifboaaGreatDoor
open Go.RowKit Go.ChangeShapes Go.WideShapes Math
set_option linter.unusedVariables false
set_option linter.unusedSimpArgs false
end Go.Proofs.YtmbglggodifboaaGreatDoor
namespace Go.Proofs.YtmbglggodifboaaGreatDoor
open Go.RowKit Math
set_option linter.unusedVariables false
theorem value_any : ∀ (d : Nat), d ≤ 16 → ∀ dp : Int, dp = 17 - (d : Int) → ValC 127 (rdV d) (fun r => #[.pointer (some ⟨r, 0, none⟩), .int .i64 dp])
  | 0, _, dp, h => val_deep dp (by omega)
  | d + 1, hd, dp, h => by
    have VC := value_any d (by omega) (dp + 1) (by omega)
    exact val_step d dp (by omega) (nest8 d dp (by omega) (by omega) VC) (nest9 d dp (by omega) (by omega) VC)
theorem valL_any {L : List Nat} (h : Sm (rdV 16) L 0) : ValL L := fun w0 W r ab cb hE hb => value_any 16 (Nat.le_refl _) 1 (by omega) w0 W r ab cb L 0 0 hE hb (by omega) (fun _ => h)
theorem sm_short {L : List Nat} (h : L.length ≤ 65536) : Sm (rdV 16) L 0 := .inl h
theorem sm_enc {p : Vt} (hp : WfV p) (hc : chkV p 1 = 0) (hl : (encV p).length ≤ 65536) (m : List Nat) : Sm (rdV 16) (encV p ++ m) 0 := .inr ⟨p, m, by rw [List.drop_zero]; exact enc_back p hp hc m, by rw [List.length_append]; omega⟩
end Go.Proofs.YtmbglggodifboaaGreatDoor
namespace Go.Proofs.YtmbglggodifboaaGreatDoor
open Go.RowKit Go.ChangeShapes Go.WideShapes Math
set_option linter.unusedVariables false
set_option linter.unusedSimpArgs false
theorem enc_ok {p : Vt} (h : encE p = 0) : chkV p 1 = 0 ∧ encB p = encV p ∧ (encV p).length ≤ 65536 := by
  by_cases h1 : chkV p 1 = 0
  · by_cases h2 : 65536 < (encV p).length
    · have := (encE_long h1 h2).1
      omega
    · exact ⟨h1, (encE_yes h1 h2).2, by omega⟩
  · have := (encE_no h1).1
    omega
end Go.Proofs.YtmbglggodifboaaGreatDoor
namespace Go.Proofs.YtmbglggodifboaaGreatDoor
open Go.RowKit Go.ChangeShapes Go.WideShapes Math
set_option linter.unusedVariables false
set_option linter.unusedSimpArgs false
set_option maxRecDepth 8000 in
set_option maxHeartbeats 4000000 in
theorem great_big (p : Vt) (hwf : WfV p) (na : Option Addr) (nc : Nat) (ka : Option Addr) (kc : Nat) (g m : Nat) (w0 W : World) (hv : Vl w0 p na nc ka kc) (hb : Below w0.heap.size w0 W) (hg : w0.heap.size ≤ g) (hm : Blk W g 3 [.int .i64 (m : Int)]) (hm2 : m ≤ 150000000000000) (hm3 : 3000 < m) :
    Calls Tryz.prog 26 #[.agg #[.int .i64 p.1.k, .int .i64 p.1.n, .int .i64 p.1.s, .string p.1.t, .slice na p.1.ns.length nc, .slice ka p.2.list.length kc], .pointer (some ⟨g, 0, none⟩)] W fun e W' => e = .returned (.bool true) ∧ Hid (W.grownBy W' (some g)) := by
  have hkl := hwf.2.1
  have htl := hwf.1.t1
  have hnl := hwf.1.c1
  obtain ⟨W1, HW1⟩ : ∃ W1, Hid (W.alloc (.cells #[.int .i64 p.1.k, .int .i64 p.1.n, .int .i64 p.1.s, .string p.1.t, .slice na p.1.ns.length nc, .slice ka p.2.list.length kc] 41) = W1) := ⟨_, rfl⟩
  have bx : Blk W1 W.heap.size 41 (six p.1 na nc ka p.2.list.length kc) := by rw [← HW1.out]; exact blk_new W 41 _
  have bm : Blk W1 g 3 [.int .i64 (m : Int)] := by rw [← HW1.out]; exact hm.alloc _
  have g1 : W.grownBy W1 none := by rw [← HW1.out]; exact World.grownBy_alloc W _ none
  have hne : g ≠ W.heap.size := Nat.ne_of_lt hm.lt
  have c0 : W1.cell? ⟨g, 0, none⟩ = some (.int .i64 (m : Int)) := bm.cell 0
  have c3 : W1.cell? ⟨W.heap.size, 3, none⟩ = some (.string p.1.t) := bx.cell 3
  have c4 : W1.cell? ⟨W.heap.size, 4, none⟩ = some (.slice na p.1.ns.length nc) := bx.cell 4
  have fr : W1.frozen? ⟨g, 0, none⟩ = false := bm.frozen 0
  have HS : Hid (ws p = wsH p.1 + p.2.ws) := rfl
  have HSh : Hid (wsH p.1 = 1 + p.1.t.size / 20 + p.1.ns.length) := rfl
  have HW : Hid (WfV p) := hwf
  have HV : Hid (Vl w0 p na nc ka kc) := hv
  have HB : Hid (Below w0.heap.size w0 W) := hb
  have HBx : Hid (Blk W1 W.heap.size 41 (six p.1 na nc ka p.2.list.length kc)) := bx
  have HBm : Hid (Blk W1 g 3 [.int .i64 (m : Int)]) := bm
  have HG1 : Hid (W.grownBy W1 none) := g1
  generalize ws p = WS at *
  clear hwf hv hb bx bm g1 hm
  go_enter Tryz.func26, Tryz.ntmps26
  go_wp2
  generalize hWW : World.alloc W _ = W2
  obtain rfl : W1 = W2 := by rw [← hWW, ← HW1.out]
  clear hWW HW1
  obtain ⟨m1, HM1⟩ : ∃ m1 : Nat, Hid (m1 = m + 1 + p.1.t.size / 20 + p.1.ns.length) := ⟨_, rfl⟩
  have hm1 : m1 ≤ 1000000000000000 := by rw [HM1.out]; omega
  have HX : Hid ((m : Int) + 1 + (p.1.t.size : Int) / 20 + (p.1.ns.length : Int) = (m1 : Int)) := by
    show _ = _
    rw [HM1.out]
    omega
  go_region
  all_goals go_wp2
  rw [HX.out]
  obtain ⟨W2, HW2⟩ : ∃ W2, Hid ((W1.setCell ⟨g, 0, none⟩ (.int .i64 (m1 : Int))).drew = W2) := ⟨_, rfl⟩
  rw [HW2.out]
  have HG2 : Hid (W1.grownBy W2 (some g)) := by
    rw [← HW2.out]
    have h := grown_setCell W1 ⟨g, 0, none⟩ (.int .i64 (m1 : Int))
    exact ⟨h.os, h.tape, h.output, h.size, h.block⟩
  have HB2 : Hid (Blk W2 g 3 [.int .i64 (m1 : Int)]) := by
    rw [← HW2.out]
    exact HBm.out.set 0 (.int .i64 (m1 : Int))
  have HX2 : Hid (Blk W2 W.heap.size 41 (six p.1 na nc ka p.2.list.length kc)) := HBx.out.kept HG2.out (fun e => hne (Option.some.inj e).symm)
  have HBw : Hid (Below w0.heap.size w0 W2) := (HB.out.grown HG1.out HB.out.size (fun k e => by cases e)).grown HG2.out (Nat.le_trans HB.out.size HG1.out.size) (fun k e => by cases e; exact hg)
  have HGW : Hid (W.grownBy W2 (some g)) := by
    have h1 := HG1.out
    have h2 := HG2.out
    exact ⟨h2.os.trans h1.os, h2.tape.trans h1.tape, h2.output.trans h1.output, Nat.le_trans h1.size h2.size, fun k hk hne => (h2.block k (Nat.lt_of_lt_of_le hk h1.size) hne).trans (h1.block k hk (by simp))⟩
  clear HW2 HX c0 c3 c4 fr HBx HBm HG1 HG2
  have hm13 : 3000 < m1 := by rw [HM1.out]; omega
  go_loopw [5] (fun i wr => i = .int .i64 0 ∧ wr = W2) (fun _ _ => 0)
  case atStart => exact ⟨rfl, rfl⟩
  case round =>
    obtain ⟨rfl, rfl⟩ := hrel
    have cg : wr.cell? ⟨g, 0, none⟩ = some (.int .i64 (m1 : Int)) := HB2.out.cell 0
    have c5 : wr.cell? ⟨W.heap.size, 5, none⟩ = some (.slice ka p.2.list.length kc) := HX2.out.cell 5
    have h3 : decide ((m1 : Int) ≤ 3000) = false := by simp; omega
    have h4 : decide ((3000 : Int) < (m1 : Int)) = true := by simp; omega
    by_cases h1 : 0 < p.2.list.length
    · have h1b : decide ((0 : Int) < (p.2.list.length : Int)) = true := decide_eq_true (by omega)
      go_wp2
      go_ret
      exact ⟨rfl, HGW.out⟩
    · have h1b : decide ((0 : Int) < (p.2.list.length : Int)) = false := decide_eq_false (by omega)
      go_wp2
      go_ret
      exact ⟨rfl, HGW.out⟩
theorem dec_self {p : Vt} (hw : WfV p) (he : encE p = 0) : decE (encV p) = 0 ∧ decP (encV p) = p := by
  obtain ⟨h1, h2, h3⟩ := enc_ok he
  have h := enc_back p hw h1 []
  rw [List.append_nil] at h
  have e : decE (encV p) = 0 := by
    unfold decE
    rw [h]
    simp only
    rw [if_neg (by simpa using chk1 h1), if_neg (by simp), if_neg (by omega)]
  refine ⟨e, ?_⟩
  unfold decP
  rw [h]
  simp only
  rw [e]
  rfl
/-- No error is nought. -/
def Nz {α : Type} (f : Rdr α) : Prop := ∀ l, f l ≠ .error 0
theorem nz_ret {α : Type} (x : α) : Nz (Rdr.ret x) := fun l h => by cases h
theorem nz_no {α : Type} {e : Nat} (he : e ≠ 0) : Nz (Rdr.no (α := α) e) := fun l h => he (Except.error.inj h)
theorem nz_bind {α β : Type} {f : Rdr α} {g : α → Rdr β} (hf : Nz f) (hg : ∀ x, Nz (g x)) : Nz (f.bind g) := fun l h => by
  unfold Rdr.bind at h
  cases e : f l with
  | error x =>
    rw [e] at h
    simp only at h
    have : x = 0 := Except.error.inj h
    exact hf l (by rw [e, this])
  | ok v =>
    obtain ⟨x, m⟩ := v
    rw [e] at h
    exact hg x m h
theorem nz_if {α : Type} {p : Prop} [Decidable p] {f g : Rdr α} (hf : Nz f) (hg : Nz g) : Nz (if p then f else g) := by
  split
  · exact hf
  · exact hg
theorem nz_by : Nz byR := fun l h => by
  cases l with
  | nil => cases h
  | cons a b => cases h
theorem nz_uv : Nz uvR := fun l h => by
  unfold uvR at h
  split at h
  · cases h
  · rename_i c
    exact c (Except.error.inj h)
theorem nz_len : Nz lenR := nz_bind nz_uv fun u => nz_if (nz_no (by decide)) (nz_ret _)
theorem nz_take (n : Nat) : Nz (takeR n) := fun l h => by
  unfold takeR at h
  split at h
  · cases h
  · cases h
theorem nz_tx : Nz txR := nz_bind nz_len fun n => nz_bind (nz_take n) fun b => nz_ret _
theorem nz_N {g : Rdr Vt} (hg : Nz g) (b : Bool) : ∀ n, Nz (rdN g b n)
  | 0 => nz_ret _
  | n + 1 => nz_bind (nz_N hg b n) fun q => nz_if (nz_bind nz_tx fun s => nz_bind hg fun v => nz_ret _) (nz_bind hg fun v => nz_ret _)
theorem rd_nz : ∀ d, Nz (rdV d)
  | 0 => nz_no (by decide)
  | d + 1 => nz_bind nz_by fun k => by
    have ih := rd_nz d
    refine nz_if (nz_ret _) (nz_if (nz_bind nz_by fun x => nz_if (nz_no (by decide)) (nz_ret _)) (nz_if (nz_bind nz_uv fun u => nz_ret _) (nz_if (nz_bind nz_uv fun u => nz_bind nz_by fun x => nz_ret _) (nz_if (nz_bind nz_uv fun u => nz_ret _) (nz_if (nz_bind nz_tx fun u => nz_ret _) (nz_if (nz_bind nz_tx fun u => nz_ret _) (nz_if (nz_bind nz_len fun n => nz_bind (nz_N ih false n) fun q => nz_ret _) (nz_if (nz_bind nz_len fun n => nz_bind (nz_N ih true n) fun q => nz_ret _) (nz_no (by decide))))))))))
theorem dec_inv {l : List Nat} (ho : Oct l) (hl : l.length ≤ 65536) (h : decE l = 0) : WfV (decP l) ∧ encE (decP l) = 0 ∧ encB (decP l) = l := by
  have h0 := h
  unfold decE at h
  cases e : rdV 16 l with
  | error x =>
    rw [e] at h
    simp only at h
    have hx : x = 0 := by omega
    exact absurd e (by rw [hx]; exact rd_nz 16 l)
  | ok v =>
    obtain ⟨q, rest⟩ := v
    rw [e] at h
    simp only at h
    have eP : decP l = q := by
      unfold decP
      rw [e]
      simp only
      rw [h0]
      rfl
    rw [eP]
    have F := find_V 16 l q rest ho e
    by_cases hc : chk0V q = 0
    case neg => rw [if_pos hc] at h; exact absurd h hc
    rw [if_neg (by simpa using hc)] at h
    by_cases hr : rest = []
    case neg => rw [if_pos hr] at h; simp at h
    subst hr
    have hw := F.wr hc
    rw [List.append_nil] at hw
    have hd := F.dp
    have h1 : chkV q 1 = 0 := by rw [chkV_flat q 1 (by omega)]; exact hc
    obtain ⟨a, b⟩ := encE_yes h1 (by rw [← hw]; omega)
    exact ⟨F.wf, a, by rw [b, ← hw]⟩
end Go.Proofs.YtmbglggodifboaaGreatDoor
