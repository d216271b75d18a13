/-
  text.Parse. · What text.Parse owes to lex. · The law's known of chapter 9; two values with one text are one. · The law TextPlain, walked.
-/
import Derived.Test.YtpfiejmhnkcjbaaGreatDoorFRc1
import Derived.Test.YtpfiejmhnkcjbaaGreatDoorFLyj
import Derived.Laws.BytesArg
namespace Go.Proofs.YtpfiejmhnkcjbaaGreatDoor
open Go.RowKit Math
set_option linter.unusedVariables false
set_option linter.unusedSimpArgs false
/-- What Parse answers. -/
structure Tp9 (W w' : World) (s : ByteArray) (p : Vt) (na : Option Addr) (nc : Nat) (ka : Option Addr) (kc : Nat) (E : Int) : Prop where
  bl : Below W.heap.size W w'
  vl : Vl w' p na nc ka kc
  wf : WfV p
  wz : ws p ≤ 600000
  ok : (E = 0 ∧ encE p = 0 ∧ prV p = bts s ∧ (∀ y, WfV y → encE y = 0 → prV y = bts s → y = p)) ∨ (E = 3 ∧ p = lf 0 0 0 em ∧ (s.size ≤ 524288 → ∀ y, WfV y → encE y = 0 → prV y ≠ bts s))
theorem vl_zero (w : World) : Vl w (lf 0 0 0 em) none 0 none 0 := (vl_leaf9 w 0 0 0 em).vl
theorem wf_zero : WfV (lf 0 0 0 em) := wf_leaf9 0 0 0 em (by omega) (by omega) (by omega) (by decide)
theorem tp_no {W w' : World} {s : ByteArray} (hb : Below W.heap.size W w') (h : s.size ≤ 524288 → ∀ y, WfV y → encE y = 0 → prV y ≠ bts s) : Tp9 W w' s (lf 0 0 0 em) none 0 none 0 3 :=
  ⟨hb, vl_zero _, wf_zero, by decide, .inr ⟨rfl, rfl, h⟩⟩
set_option maxRecDepth 8000 in
set_option maxHeartbeats 4000000 in
theorem tparse_any (s : ByteArray) (hs : s.size ≤ 9223372036854775807) (W : World) (ht : D6.Ptab W) :
    Calls Tryz.prog 55 #[.string s] W fun e w' => ∃ (p : Vt) (na : Option Addr) (nc : Nat) (ka : Option Addr) (kc : Nat) (E : Int), e = .returned (.tuple #[.agg #[.int .i64 p.1.k, .int .i64 p.1.n, .int .i64 p.1.s, .string p.1.t, .slice na p.1.ns.length nc, .slice ka p.2.list.length kc], .int .i64 E]) ∧ Hid (Tp9 W w' s p na nc ka kc E) := by
  have HTb : Hid (D6.Ptab W) := ht
  clear ht
  go_enter Tryz.func55, Tryz.ntmps55
  go_wp2_with (refine al_zero rfl 41 rfl zer z25 ?_)
  intro g2 w1 hg2 bz1 gr1
  have HZ1 : Hid (Blk w1 g2 41 zer) := bz1
  have HB1 : Hid (Below W.heap.size W w1) := (Below.refl _ _).grown gr1 (Nat.le_refl _) (fun k e => by cases e)
  have hg2l : g2 < w1.heap.size := bz1.lt
  clear bz1 gr1
  by_cases hbig : 524288 < s.size
  · have hbi : (524288 : Int) < (s.size : Int) := by omega
    go_wp2_with (refine st_all rfl 41 (.tmp 2) (.tmp 11) rfl g2 41 zer [.int .i64 0, .int .i64 0, .int .i64 0, .string ⟨#[]⟩, .slice none 0 0, .slice none 0 0] rfl rfl HZ1.out rfl s25 (D6.ones rfl) ?_)
    intro w9 b9 g9
    have HB9 : Hid (Blk w9 g2 41 [.int .i64 0, .int .i64 0, .int .i64 0, .string ⟨#[]⟩, .slice none 0 0, .slice none 0 0]) := b9
    have HF : Hid (Tp9 W w9 s (lf 0 0 0 em) none 0 none 0 3) := tp_no (HB1.out.grown g9 HB1.out.size (fun k e => by injection e with e; omega)) (fun h => absurd h (by omega))
    clear b9 g9 HZ1 HB1
    go_wp2
    refine bodyPost_ret (res_two rfl _ g2 41 _ _ rfl HB9.out Tryz.underlying41 rfl s25) rfl ?_
    exact ⟨lf 0 0 0 em, none, 0, none, 0, 3, rfl, HF.out⟩
  have hsm : s.size ≤ 524288 := by omega
  obtain ⟨w2, HW2⟩ : ∃ w2, Hid (w1.alloc (.cells #[.string s, .bool false] 106) = w2) := ⟨_, rfl⟩
  have HR2 : Hid (Blk w2 w1.heap.size 106 [.string s, .bool false]) := by rw [← HW2.out]; exact blk_new w1 106 [.string s, .bool false]
  have HB2 : Hid (Below w1.heap.size w1 w2) := by rw [← HW2.out]; exact (Below.refl _ _).alloc (Nat.le_refl _) _
  have K := value9 16 1 (by omega) (by omega) w1.heap.size s false w2 (by omega) HR2.out
  go_wp2_with fail
  generalize hWW : World.alloc w1 _ = W9
  obtain rfl : w2 = W9 := by rw [← hWW, ← HW2.out]
  clear hWW HW2 hbig
  refine K.mono ?_
  rintro e w3 ⟨p, na, nc, ka, kc, s3, b3, rfl, H3⟩
  have hz12 : w1.heap.size < w2.heap.size := HR2.out.lt
  have hz23 : w2.heap.size ≤ w3.heap.size := H3.out.kt.gr.size
  have HZ3 : Hid (Blk w3 g2 41 zer) := (HZ1.out.below HB2.out hg2l).kept H3.out.kt.gr (by intro e; injection e with e; omega)
  have HB3 : Hid (Below W.heap.size W w3) := by
    have h := HB1.out.size
    have := HB1.out.trans (HB2.out.mono h)
    exact this.grown H3.out.kt.gr (by omega) (fun k e => by injection e with e; omega)
  have HR3 : Hid (Blk w3 w1.heap.size 106 [.string s3, .bool b3]) := H3.out.kt.blk
  have HVl : Hid (∃ Lp, VlL w3 p na nc ka kc Lp ∧ ∀ x ∈ Lp, w2.heap.size ≤ x ∧ x < w3.heap.size) := H3.out.vl
  have HWf : Hid (WfV p) := H3.out.wf
  have HVx : Hid (Vx 1 (bts s) false (bts s3) b3 p) := H3.out.vx
  clear K H3 HZ1 HB1 HB2 HR2
  go_wp2_with (refine al_zero rfl 41 rfl zer z25 ?_)
  intro g5 w4 hg5 bz4 gr4
  go_wp2_with (refine st_all rfl 41 (.tmp 5) (.tmp 16) rfl g5 41 zer (six p.1 na nc ka p.2.list.length kc) rfl rfl bz4 rfl s25 (six_one _ _ _ _ _ _) ?_)
  intro w5 b5 gr5
  have HB5 : Hid (Below w3.heap.size w3 w5) := below_new gr4 hg5 gr5
  have HV5 : Hid (Blk w5 g5 41 (six p.1 na nc ka p.2.list.length kc)) := b5
  have HR5 : Hid (Blk w5 w1.heap.size 106 [.string s3, .bool b3]) := HR3.out.below HB5.out HR3.out.lt
  have HZ5 : Hid (Blk w5 g2 41 zer) := HZ3.out.below HB5.out HZ3.out.lt
  have HBW5 : Hid (Below W.heap.size W w5) := HB3.out.trans (HB5.out.mono HB3.out.size)
  have HVl5 : Hid (∃ Lp, VlL w5 p na nc ka kc Lp ∧ ∀ x ∈ Lp, w2.heap.size ≤ x ∧ x < w5.heap.size) := by
    obtain ⟨Lp, a1, a2⟩ := HVl.out
    have := HB5.out.size
    exact ⟨Lp, a1.keep fun x hx => HB5.out.block x (a2 x hx).2, fun x hx => by have := a2 x hx; omega⟩
  have c1 : w5.cell? ⟨w1.heap.size, 1, none⟩ = some (.bool b3) := HR5.out.cell 1
  have hg25 : g2 ≠ g5 := by omega
  clear bz4 gr4 b5 gr5 HB5 HR3 HZ3 HVl HB3
  have HCo : Hid (∀ y, WfV y → encE y = 0 → prV y = bts s → b3 = false ∧ y = p) := fun y h1 h2 h3 => by
    obtain ⟨a1, a2, _⟩ := HVx.out.rt.co rfl y [] ⟨h1, encE_chk h2, .inl rfl⟩ (by rw [h3, List.append_nil])
    exact ⟨a1, a2.symm⟩
  cases b3 with
  | true =>
    have HNo : Hid (s.size ≤ 524288 → ∀ y, WfV y → encE y = 0 → prV y ≠ bts s) := fun _ y h1 h2 h3 => by have := (HCo.out y h1 h2 h3).1; cases this
    clear HVx HCo
    go_wp2_with (refine st_all rfl 41 (.tmp 2) (.tmp 21) rfl g2 41 zer [.int .i64 0, .int .i64 0, .int .i64 0, .string ⟨#[]⟩, .slice none 0 0, .slice none 0 0] rfl rfl HZ5.out rfl s25 (D6.ones rfl) ?_)
    intro w9 b9 g9
    have HB9 : Hid (Blk w9 g2 41 [.int .i64 0, .int .i64 0, .int .i64 0, .string ⟨#[]⟩, .slice none 0 0, .slice none 0 0]) := b9
    have HF : Hid (Tp9 W w9 s (lf 0 0 0 em) none 0 none 0 3) := tp_no (HBW5.out.grown g9 HBW5.out.size (fun k e => by injection e with e; omega)) HNo.out
    clear b9 g9 HZ5 HBW5 HV5 HR5 HNo
    go_wp2
    refine bodyPost_ret (res_two rfl _ g2 41 _ _ rfl HB9.out Tryz.underlying41 rfl s25) rfl ?_
    exact ⟨lf 0 0 0 em, none, 0, none, 0, 3, rfl, HF.out⟩
  | false =>
    have hwz : ws p ≤ 600000 := by
      have := HVx.out.pr rfl
      rw [bts_len, bts_len] at this
      omega
    have K6 := print_any p HWf.out (by omega) na nc ka kc w5 (by obtain ⟨Lp, a1, _⟩ := HVl5.out; exact a1.vl) (ptab_below HTb.out HBW5.out)
    have HPy : Hid (encE p = 0 → bts (prT p) = prV p) := prT_yes HWf.out
    obtain ⟨E, hE⟩ : ∃ E, encE p = E := ⟨_, rfl⟩
    obtain ⟨T, hT⟩ : ∃ T, prT p = T := ⟨_, rfl⟩
    have HE : Hid (encE p = E) := hE
    have HT : Hid (prT p = T) := hT
    rw [hE, hT] at K6
    clear hE hT
    have d0 : w5.cell? ⟨g5, 0, none⟩ = some (.int .i64 p.1.k) := HV5.out.cell 0
    have d1 : w5.cell? ⟨g5, 1, none⟩ = some (.int .i64 p.1.n) := HV5.out.cell 1
    have d2 : w5.cell? ⟨g5, 2, none⟩ = some (.int .i64 p.1.s) := HV5.out.cell 2
    have d3 : w5.cell? ⟨g5, 3, none⟩ = some (.string p.1.t) := HV5.out.cell 3
    have d4 : w5.cell? ⟨g5, 4, none⟩ = some (.slice na p.1.ns.length nc) := HV5.out.cell 4
    have d5 : w5.cell? ⟨g5, 5, none⟩ = some (.slice ka p.2.list.length kc) := HV5.out.cell 5
    go_wp2_with fail
    refine K6.mono ?_
    rintro e w6 ⟨rfl, b6⟩
    have HB6 : Hid (Below w5.heap.size w5 w6) := b6
    have HV6 : Hid (Blk w6 g5 41 (six p.1 na nc ka p.2.list.length kc)) := HV5.out.below b6 HV5.out.lt
    have HZ6 : Hid (Blk w6 g2 41 zer) := HZ5.out.below b6 HZ5.out.lt
    have HBW6 : Hid (Below W.heap.size W w6) := HBW5.out.trans (b6.mono HBW5.out.size)
    have HVl6 : Hid (∃ Lp, VlL w6 p na nc ka kc Lp ∧ ∀ x ∈ Lp, w2.heap.size ≤ x ∧ x < w6.heap.size) := by
      obtain ⟨Lp, a1, a2⟩ := HVl5.out
      have := b6.size
      exact ⟨Lp, a1.keep fun x hx => b6.block x (a2 x hx).2, fun x hx => by have := a2 x hx; omega⟩
    clear K6 b6 HB6 HV5 HZ5 HBW5 HVl5 HR5 d0 d1 d2 d3 d4 d5 c1
    by_cases hE0 : E = 0
    case neg =>
      have hne : (E != 0) = true := by simpa using hE0
      have HNo : Hid (s.size ≤ 524288 → ∀ y, WfV y → encE y = 0 → prV y ≠ bts s) := fun _ y h1 h2 h3 => by
        have := (HCo.out y h1 h2 h3).2
        rw [this, HE.out] at h2
        exact hE0 h2
      clear HVx HCo HE HT HPy
      go_wp2_with (refine st_all rfl 41 (.tmp 2) (.tmp 34) rfl g2 41 zer [.int .i64 0, .int .i64 0, .int .i64 0, .string ⟨#[]⟩, .slice none 0 0, .slice none 0 0] rfl rfl HZ6.out rfl s25 (D6.ones rfl) ?_)
      intro w9 b9 g9
      have HB9 : Hid (Blk w9 g2 41 [.int .i64 0, .int .i64 0, .int .i64 0, .string ⟨#[]⟩, .slice none 0 0, .slice none 0 0]) := b9
      have HF : Hid (Tp9 W w9 s (lf 0 0 0 em) none 0 none 0 3) := tp_no (HBW6.out.grown g9 HBW6.out.size (fun k e => by injection e with e; omega)) HNo.out
      clear b9 g9 HZ6 HBW6 HV6 HVl6 HNo
      go_wp2
      refine bodyPost_ret (res_two rfl _ g2 41 _ _ rfl HB9.out Tryz.underlying41 rfl s25) rfl ?_
      exact ⟨lf 0 0 0 em, none, 0, none, 0, 3, rfl, HF.out⟩
    subst hE0
    by_cases hTS : T = s
    case neg =>
      have hts : (T.toList == s.toList) = false := by
        rw [beq_eq_false_iff_ne]
        exact fun e => hTS (bytes_eq e)
      have HNo : Hid (s.size ≤ 524288 → ∀ y, WfV y → encE y = 0 → prV y ≠ bts s) := fun _ y h1 h2 h3 => by
        have := (HCo.out y h1 h2 h3).2
        subst this
        apply hTS
        rw [← HT.out, ← ofB_bts (prT y), HPy.out HE.out, h3, ofB_bts]
      clear HVx HCo HE HT HPy hTS
      go_wp2_with (refine st_all rfl 41 (.tmp 2) (.tmp 34) rfl g2 41 zer [.int .i64 0, .int .i64 0, .int .i64 0, .string ⟨#[]⟩, .slice none 0 0, .slice none 0 0] rfl rfl HZ6.out rfl s25 (D6.ones rfl) ?_)
      intro w9 b9 g9
      have HB9 : Hid (Blk w9 g2 41 [.int .i64 0, .int .i64 0, .int .i64 0, .string ⟨#[]⟩, .slice none 0 0, .slice none 0 0]) := b9
      have HF : Hid (Tp9 W w9 s (lf 0 0 0 em) none 0 none 0 3) := tp_no (HBW6.out.grown g9 HBW6.out.size (fun k e => by injection e with e; omega)) HNo.out
      clear b9 g9 HZ6 HBW6 HV6 HVl6 HNo
      go_wp2
      refine bodyPost_ret (res_two rfl _ g2 41 _ _ rfl HB9.out Tryz.underlying41 rfl s25) rfl ?_
      exact ⟨lf 0 0 0 em, none, 0, none, 0, 3, rfl, HF.out⟩
    subst hTS
    have hts : (T.toList == T.toList) = true := by simp
    have HOk : Hid (encE p = 0 ∧ prV p = bts T ∧ (∀ y, WfV y → encE y = 0 → prV y = bts T → y = p)) := ⟨HE.out, by rw [← HPy.out HE.out, HT.out], fun y h1 h2 h3 => (HCo.out y h1 h2 h3).2⟩
    clear HVx HCo HE HT HPy
    go_wp2_with (first
      | refine D6.ld_all rfl 41 (.tmp 5) rfl g5 41 _ _ rfl HV6.out Tryz.underlying41 rfl s25 ?_
      | refine st_all rfl 41 (.tmp 2) (.tmp 35) rfl g2 41 zer (six p.1 na nc ka p.2.list.length kc) rfl rfl HZ6.out rfl s25 (six_one _ _ _ _ _ _) ?_)
    intro w9 b9 g9
    have HB9 : Hid (Blk w9 g2 41 (six p.1 na nc ka p.2.list.length kc)) := b9
    have HF : Hid (Tp9 W w9 T p na nc ka kc 0) := by
      obtain ⟨Lp, a1, a2⟩ := HVl6.out
      refine ⟨HBW6.out.grown g9 HBW6.out.size (fun k e => by injection e with e; omega), (a1.keep fun x hx => ?_).vl, HWf.out, hwz, .inl ⟨rfl, HOk.out⟩⟩
      have := a2 x hx
      exact g9.block x this.2 (by intro e; injection e with e; omega)
    clear b9 g9 HZ6 HBW6 HV6 HVl6 HOk
    go_wp2
    refine bodyPost_ret (res_two rfl _ g2 41 _ _ rfl HB9.out Tryz.underlying41 rfl s25) rfl ?_
    exact ⟨p, na, nc, ka, kc, 0, rfl, HF.out⟩
end Go.Proofs.YtpfiejmhnkcjbaaGreatDoor
namespace Go.Proofs.YtpfiejmhnkcjbaaGreatDoor
open Go.RowKit Lx
set_option linter.unusedVariables false
set_option linter.unusedSimpArgs false
end Go.Proofs.YtpfiejmhnkcjbaaGreatDoor
namespace Go.Proofs.YtpfiejmhnkcjbaaGreatDoor
open Go.RowKit Math
set_option linter.unusedVariables false
set_option linter.unusedSimpArgs false
end Go.Proofs.YtpfiejmhnkcjbaaGreatDoor
namespace Go.Proofs.YtpfiejmhnkcjbaaGreatDoor
open Go.RowKit Math
set_option linter.unusedVariables false
set_option linter.unusedSimpArgs false
theorem strOf9 (l : List Nat) (h : Oct l) : strOfNums (l.map fun n : Nat => (n : Int)) = ofB l := by
  unfold strOfNums ofB
  congr 2
  rw [List.map_map]
  apply List.map_congr_left
  intro x hx
  have := h x hx
  simp
theorem conv_byt9 {w : World} {a : Option Addr} {l : List Nat} {c : Nat} (h : Byt w a l) (ho : Oct l) (hnil : a = none → c = 0) : (convert 34 9 (.slice a l.length c)).run Tryz.prog w = .ok (.string (ofB l)) w := by
  cases a with
  | none =>
    have hl : l = [] := by
      rcases h with h | ⟨_, _, h, _⟩
      · exact h
      · cases h
    subst hl
    exact run_convert_bytes_nil w 34 5 Tryz.underlying34 Tryz.underlying5 0 c 9 Tryz.underlying9
  | some ad =>
    rw [← strOf9 _ ho]
    by_cases hl : l = []
    · subst hl
      rw [run_convert_bytes_string w 34 9 5 (some ad) ([] : List Nat).length c Tryz.underlying34 Tryz.underlying5 Tryz.underlying9]
      have hl : (loadCells ad 0).run Tryz.prog w = .ok #[] w := by simpa using run_loadCells_list (P := Tryz.prog) w ad [] (by simp)
      simp [Conv.bytesToString, hl, strOfNums]
      try rfl
    · rcases h with h | ⟨b, o, h, hc⟩
      · exact absurd h hl
      · obtain rfl := Option.some.inj h
        refine run_convert_bytes_arg w 34 5 Tryz.underlying34 Tryz.underlying5 b o l.length c _ (by rw [List.length_map]) (fun k hk => ?_) 9 Tryz.underlying9
        have := hc k hk
        rw [this]
        simp [List.getD_eq_getElem?_getD, hk]
end Go.Proofs.YtpfiejmhnkcjbaaGreatDoor
