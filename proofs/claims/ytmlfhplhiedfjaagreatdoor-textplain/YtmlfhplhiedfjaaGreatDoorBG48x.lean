/-
  The law's known of chapter 9; two values with one text are one. · The law TextPlain, walked.
-/
import Derived.Test.YtmlfhplhiedfjaaGreatDoorBRd1
import Derived.Laws.BytesArg
namespace Go.Proofs.YtmlfhplhiedfjaaGreatDoor
open Go.RowKit Math
set_option linter.unusedVariables false
set_option linter.unusedSimpArgs false
def kn9 : Vt := (⟨9, 0, 0, em, [⟨#[97]⟩, ⟨#[98]⟩]⟩, .cons ⟨3, 1, 0, em, []⟩ .nil (.cons ⟨8, 0, 0, em, []⟩ (.cons ⟨1, 0, 0, em, []⟩ .nil (.cons ⟨6, 0, 0, ⟨#[105, 116, 39, 115]⟩, []⟩ .nil (.cons ⟨7, 0, 0, ⟨#[0]⟩, []⟩ .nil .nil))) .nil))
def knS : ByteArray := ⟨#[123, 39, 97, 39, 58, 32, 49, 44, 32, 39, 98, 39, 58, 32, 91, 110, 117, 108, 108, 44, 32, 39, 105, 116, 39, 39, 115, 39, 44, 32, 35, 48, 48, 93, 125]⟩
theorem kn9_enc : encE kn9 = 0 := by kernel_rfl
theorem hok9 (k n s : Int) (t : ByteArray) (ns : List ByteArray) (hk : 0 ≤ k ∧ k ≤ 9) (hn : 0 ≤ n ∧ n ≤ 1) (hs : s = 0) (ht : t.size ≤ 4) (hl : ns.length ≤ 2) (hx : ∀ x ∈ ns, x.size ≤ 1) : Hok ⟨k, n, s, t, ns⟩ :=
  ⟨by show (-9223372036854775808 : Int) ≤ k; omega, by show k < 9223372036854775808; omega, by show (-9223372036854775808 : Int) ≤ n; omega, by show n < 9223372036854775808; omega, by show (-9223372036854775808 : Int) ≤ s; omega, by show s < 9223372036854775808; omega, by show t.size ≤ _; omega, by show ns.length ≤ _; omega, fun x hx2 => by have := hx x hx2; omega⟩
theorem kn9_wf : WfV kn9 := by
  refine ⟨hok9 9 0 0 em _ (by omega) (by omega) rfl (by decide) (by decide) (by simp; decide), by decide, ⟨⟨hok9 3 1 0 em [] (by omega) (by omega) rfl (by decide) (by decide) (by simp), by decide, trivial⟩, ⟨⟨hok9 8 0 0 em [] (by omega) (by omega) rfl (by decide) (by decide) (by simp), by decide, ?_⟩, trivial⟩⟩⟩
  exact ⟨⟨hok9 1 0 0 em [] (by omega) (by omega) rfl (by decide) (by decide) (by simp), by decide, trivial⟩, ⟨hok9 6 0 0 _ [] (by omega) (by omega) rfl (by decide) (by decide) (by simp), by decide, trivial⟩, ⟨hok9 7 0 0 _ [] (by omega) (by omega) rfl (by decide) (by decide) (by simp), by decide, trivial⟩, trivial⟩
theorem pN_one : pN 1 0 = [49] := by
  have h : dcB 1 = ⟨#[49]⟩ := by
    unfold dcB
    rw [Lib.decDigits_one (by omega)]
    rfl
  unfold pN D6.txt
  rw [if_neg (by omega), if_pos rfl, show (1 : Int).natAbs = 1 from rfl, h]
  rfl
theorem kn9_pr : prV kn9 = bts knS := by
  have h : pH ⟨3, 1, 0, em, []⟩ (prF .nil (decide ((3 : Int) = 9)) [] true) = [49] := by
    unfold pH
    simp only [show ¬ (3 : Int) = 1 by decide, show ¬ (3 : Int) = 2 by decide, if_false, if_true, show (0 : Int).toNat = 0 from rfl]
    exact pN_one
  unfold prV kn9
  show pH _ (prF (.cons ⟨3, 1, 0, em, []⟩ .nil _) _ _ _) = _
  rw [prF, h]
  rfl
theorem knS_size : knS.size = 35 := rfl
set_option maxRecDepth 8000 in
set_option maxHeartbeats 2000000 in
theorem known9 (W : World) (ht : D6.Ptab W) : Calls Tryz.prog 21 #[] W fun e w' => e = .returned (.bool true) ∧ Below W.heap.size W w' := by
  have HTb : Hid (D6.Ptab W) := ht
  have K := tparse_any knS (by rw [knS_size]; omega) W ht
  clear ht
  go_enter Tryz.func21, Tryz.ntmps21
  go_wp2_with fail
  refine K.mono ?_
  rintro e w1 ⟨p, na, nc, ka, kc, E, rfl, H1⟩
  have HP : Hid (E = 0 ∧ p = kn9) := by
    rcases H1.out.ok with ⟨a, _, _, b⟩ | ⟨_, _, b⟩
    · exact ⟨a, (b kn9 kn9_wf kn9_enc kn9_pr).symm⟩
    · exact absurd kn9_pr (b (by rw [knS_size]; omega) kn9 kn9_wf kn9_enc)
  have HB1 : Hid (Below W.heap.size W w1) := H1.out.bl
  have HV1 : Hid (Vl w1 p na nc ka kc) := H1.out.vl
  have HL : Hid (p.2.list.length = 2) := by show _ = _; rw [HP.out.2]; rfl
  have HPr : Hid (WfV p ∧ ws p ≤ 800000 ∧ encE p = 0 ∧ prT p = knS) := by
    refine ⟨H1.out.wf, by have := H1.out.wz; omega, by rw [HP.out.2]; exact kn9_enc, ?_⟩
    rw [HP.out.2, ← ofB_bts (prT kn9), prT_yes kn9_wf kn9_enc, kn9_pr, ofB_bts]
  obtain rfl : E = 0 := HP.out.1
  clear K H1 HP
  go_wp2_with (refine al_zero rfl 38 rfl zer z25 ?_)
  intro g w2 hg bz2 gr2
  go_wp2_with (refine st_all rfl 38 (.tmp 1) (.tmp 7) rfl g 38 zer (six p.1 na nc ka p.2.list.length kc) rfl rfl bz2 rfl s25 (six_one _ _ _ _ _ _) ?_)
  intro w3 b3 gr3
  have HB3 : Hid (Below w1.heap.size w1 w3) := below_new gr2 hg gr3
  have HX3 : Hid (Blk w3 g 38 (six p.1 na nc ka p.2.list.length kc)) := b3
  have HBW3 : Hid (Below W.heap.size W w3) := HB1.out.trans (HB3.out.mono HB1.out.size)
  have K2 := print_any p HPr.out.1 HPr.out.2.1 na nc ka kc w3 (HV1.out.below HB3.out) (ptab_below HTb.out HBW3.out)
  rw [HPr.out.2.2.1, HPr.out.2.2.2] at K2
  have d0 : w3.cell? ⟨g, 0, none⟩ = some (.int .i64 p.1.k) := HX3.out.cell 0
  have d1 : w3.cell? ⟨g, 1, none⟩ = some (.int .i64 p.1.n) := HX3.out.cell 1
  have d2 : w3.cell? ⟨g, 2, none⟩ = some (.int .i64 p.1.s) := HX3.out.cell 2
  have d3 : w3.cell? ⟨g, 3, none⟩ = some (.string p.1.t) := HX3.out.cell 3
  have d4 : w3.cell? ⟨g, 4, none⟩ = some (.slice na p.1.ns.length nc) := HX3.out.cell 4
  have d5 : w3.cell? ⟨g, 5, none⟩ = some (.slice ka p.2.list.length kc) := HX3.out.cell 5
  clear bz2 gr2 b3 gr3 HB3
  go_wp2_with fail
  refine K2.mono ?_
  rintro e w4 ⟨rfl, b4⟩
  have HX4 : Hid (Blk w4 g 38 (six p.1 na nc ka p.2.list.length kc)) := HX3.out.below b4 HX3.out.lt
  have HBW4 : Hid (Below W.heap.size W w4) := HBW3.out.trans (b4.mono HBW3.out.size)
  have f5 : w4.cell? ⟨g, 5, none⟩ = some (.slice ka p.2.list.length kc) := HX4.out.cell 5
  rw [HL.out] at f5
  have hkk : knS.toList = [123, 39, 97, 39, 58, 32, 49, 44, 32, 39, 98, 39, 58, 32, 91, 110, 117, 108, 108, 44, 32, 39, 105, 116, 39, 39, 115, 39, 44, 32, 35, 48, 48, 93, 125] := by
    rw [ByteArray.toList_eq]
    rfl
  generalize knS = S at *
  clear K2 b4 d0 d1 d2 d3 d4 d5 HX3 HX4 HL HPr HV1 HBW3 HB1
  go_wp2
  go_ret
  exact ⟨rfl, HBW4.out⟩
end Go.Proofs.YtmlfhplhiedfjaaGreatDoor
namespace Go.Proofs.YtmlfhplhiedfjaaGreatDoor
open Go.RowKit Math
set_option linter.unusedVariables false
set_option linter.unusedSimpArgs false
theorem strOf9 (l : List Nat) (h : Oct l) : strOfNums (l.map fun n : Nat => (n : Int)) = ofB l := by
  unfold strOfNums ofB
  congr 2
  rw [List.map_map]
  apply List.map_congr_left
  intro x hx
  have := h x hx
  simp
theorem conv_byt9 {w : World} {a : Option Addr} {l : List Nat} {c : Nat} (h : Byt w a l) (ho : Oct l) (hnil : a = none → c = 0) : (convert 52 9 (.slice a l.length c)).run Tryz.prog w = .ok (.string (ofB l)) w := by
  cases a with
  | none =>
    have hl : l = [] := by
      rcases h with h | ⟨_, _, h, _⟩
      · exact h
      · cases h
    subst hl
    exact run_convert_bytes_nil w 52 5 Tryz.underlying52 Tryz.underlying5 0 c 9 Tryz.underlying9
  | some ad =>
    rw [← strOf9 _ ho]
    by_cases hl : l = []
    · subst hl
      rw [run_convert_bytes_string w 52 9 5 (some ad) ([] : List Nat).length c Tryz.underlying52 Tryz.underlying5 Tryz.underlying9]
      have hl : (loadCells ad 0).run Tryz.prog w = .ok #[] w := by simpa using run_loadCells_list (P := Tryz.prog) w ad [] (by simp)
      simp [Conv.bytesToString, hl, strOfNums]
      try rfl
    · rcases h with h | ⟨b, o, h, hc⟩
      · exact absurd h hl
      · obtain rfl := Option.some.inj h
        refine run_convert_bytes_arg w 52 5 Tryz.underlying52 Tryz.underlying5 b o l.length c _ (by rw [List.length_map]) (fun k hk => ?_) 9 Tryz.underlying9
        have := hc k hk
        rw [this]
        simp [List.getD_eq_getElem?_getD, hk]
def pl9 (name x : ByteArray) : Vt := (⟨9, 0, 0, em, [name]⟩, .cons ⟨8, 0, 0, em, []⟩ (.cons ⟨6, 0, 0, x, []⟩ .nil (.cons ⟨7, 0, 0, x, []⟩ .nil .nil)) .nil)
theorem em_list : em.toList = [] := by rw [ByteArray.toList_eq]
theorem hokp (k : Int) (t : ByteArray) (ns : List ByteArray) (hk : 0 ≤ k ∧ k ≤ 9) (ht : t.size ≤ 500) (hl : ns.length ≤ 1) (hx : ∀ x ∈ ns, x.size ≤ 40) : Hok ⟨k, 0, 0, t, ns⟩ :=
  ⟨by show (-9223372036854775808 : Int) ≤ k; omega, by show k < 9223372036854775808; omega, by show (-9223372036854775808 : Int) ≤ 0; omega, by show (0 : Int) < 9223372036854775808; omega, by show (-9223372036854775808 : Int) ≤ 0; omega, by show (0 : Int) < 9223372036854775808; omega, by show t.size ≤ _; omega, by show ns.length ≤ _; omega, fun x hx2 => by have := hx x hx2; omega⟩
theorem pl9_wf (name x : ByteArray) (hn : name.size ≤ 40) (hx : x.size ≤ 500) : WfV (pl9 name x) := by
  refine ⟨hokp 9 em _ (by omega) (by decide) (by simp) (by simp; omega), by simp [pl9, Fo.list], ⟨⟨hokp 8 em [] (by omega) (by decide) (by decide) (by simp), by simp [Fo.list], ?_⟩, trivial⟩⟩
  exact ⟨⟨hokp 6 x [] (by omega) hx (by decide) (by simp), by decide, trivial⟩, ⟨hokp 7 x [] (by omega) hx (by decide) (by simp), by decide, trivial⟩, trivial⟩
theorem pl9_own (name : ByteArray) (h1 : 1 ≤ name.size) (h2 : name.size ≤ 40) : own ⟨9, 0, 0, em, [name]⟩ 1 = 0 := by
  have hl : (name.toList == em.toList) = false := by
    rw [beq_eq_false_iff_ne]
    intro h
    have := bytes_eq h
    rw [this] at h1
    exact absurd h1 (by decide)
  have hb : Op.bytesLess name.toList em.toList = false := by
    rw [em_list]
    cases name.toList <;> rfl
  have hd : ¬ 40 < name.size := by omega
  have hn : named [name] 1 = true := by
    unfold named rises
    rw [show (⟨#[]⟩ : ByteArray) = em from rfl, hl, hb]
    simp [rises, hd]
  have hf : formed ⟨9, 0, 0, em, [name]⟩ 1 = true := by simp [formed, only, em_list]
  unfold own
  rw [if_pos hf, if_neg (by rw [show em.size = 0 from rfl]; omega), if_neg (by rw [hn]; simp)]
theorem pl9_chk (name x : ByteArray) (h1 : 1 ≤ name.size) (h2 : name.size ≤ 40) (hx : x.size ≤ 500) : chkV (pl9 name x) 1 = 0 := by
  have e1 := pl9_own name h1 h2
  have e6 : own ⟨6, 0, 0, x, []⟩ 0 = 0 := by
    unfold own
    rw [if_pos (by simp [formed, only]), if_neg (by simp; omega), if_neg (by simp)]
  have e7 : own ⟨7, 0, 0, x, []⟩ 0 = 0 := by
    unfold own
    rw [if_pos (by simp [formed, only]), if_neg (by simp; omega), if_neg (by simp)]
  have e8 : own ⟨8, 0, 0, em, []⟩ 2 = 0 := by
    unfold own
    rw [if_pos (by simp [formed, only, em_list]), if_neg (by rw [show em.size = 0 from rfl]; omega), if_neg (by simp)]
  unfold chkV pl9
  simp only [Fo.list, List.length_cons, List.length_nil, chk]
  simp [e1, e6, e7, e8, Fo.list]
theorem pl9_ws (name x : ByteArray) (hx : x.size ≤ 500) : ws (pl9 name x) ≤ 60 := by
  have hw : ws (pl9 name x) = (1 + em.size / 20 + 1) + ((1 + em.size / 20 + 0) + ((1 + x.size / 20 + 0) + 0 + ((1 + x.size / 20 + 0) + 0 + 0)) + 0) := rfl
  rw [hw, show em.size = 0 from rfl]
  omega
theorem pl9_enc (name x : ByteArray) (h1 : 1 ≤ name.size) (h2 : name.size ≤ 40) (hx : x.size ≤ 500) : encE (pl9 name x) = 0 := by
  have hc := pl9_chk name x h1 h2 hx
  have hb := bound_V (pl9 name x) (pl9_wf name x h2 hx) (chk1 hc)
  have hw := pl9_ws name x hx
  unfold encE
  rw [if_neg (by simpa using hc), if_neg (by omega)]
theorem pl9_vl (name x : ByteArray) {w : World} {gn gk gl : Nat} (h1 : Blk w gn 9 [.string name]) (h2 : Blk w gk 38 (six ⟨6, 0, 0, x, []⟩ none 0 none 0 0 ++ six ⟨7, 0, 0, x, []⟩ none 0 none 0 0)) (h3 : Blk w gl 38 (six ⟨8, 0, 0, em, []⟩ none 0 (some ⟨gk, 0, none⟩) 2 2)) :
    Vl w (pl9 name x) (some ⟨gn, 0, none⟩) 1 (some ⟨gl, 0, none⟩) 1 := by
  have cz : ∀ (a : Option Addr), Cap a 0 0 := fun a => ⟨Nat.le_refl _, fun _ => rfl, by omega⟩
  refine ⟨.inr ⟨gn, 0, rfl, fun i y hy => ?_⟩, ⟨Nat.le_refl _, (fun e => by cases e), by decide⟩, .inr ⟨gl, 0, rfl, ⟨⟨none, 0, some ⟨gk, 0, none⟩, 2, ⟨h3.cell 0, h3.cell 1, h3.cell 2, h3.cell 3, h3.cell 4, h3.cell 5⟩, .inl rfl, cz _, .inr ⟨gk, 0, rfl, ?_⟩, ⟨Nat.le_refl _, (fun e => by cases e), by decide⟩⟩, trivial⟩⟩, ⟨Nat.le_refl _, (fun e => by cases e), by decide⟩⟩
  · cases i with
    | zero =>
      simp only [pl9, List.getElem?_cons_zero, Option.some.injEq] at hy
      subst hy
      exact h1.cell 0
    | succ i => simp [pl9] at hy
  · exact ⟨⟨none, 0, none, 0, ⟨h2.cell 0, h2.cell 1, h2.cell 2, h2.cell 3, h2.cell 4, h2.cell 5⟩, .inl rfl, cz _, .inl rfl, cz _⟩, ⟨none, 0, none, 0, ⟨h2.cell 6, h2.cell 7, h2.cell 8, h2.cell 9, h2.cell 10, h2.cell 11⟩, .inl rfl, cz _, .inl rfl, cz _⟩, trivial⟩
end Go.Proofs.YtmlfhplhiedfjaaGreatDoor
