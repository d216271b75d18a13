/-
  order.Values. · The document's own order: number.
-/
import Derived.Test.YtmlfhplhiedfjaaGreatDoorOG16x
import Derived.Test.YtmlfhplhiedfjaaGreatDoorOG43x
import Derived.Test.YtmlfhplhiedfjaaGreatDoorOG4x
namespace Go.Proofs.YtmlfhplhiedfjaaGreatDoor
open Go.RowKit Math
set_option linter.unusedVariables false
set_option linter.unusedSimpArgs false
/-- What Values answers. -/
structure Vs (W w' : World) (L : List Nat) (f : Fo) (ka : Option Addr) (kc : Nat) : Prop where
  lv : Lv w' ka kc f
  wf : Wf f
  ck : chkL f = 0
  key : keyF f false [] = L
  bl : Below W.heap.size W w'
  one : ∀ g, Wf g → chkL g = 0 → keyF g false [] = L → g = f
theorem keyF_nil {g : Fo} (h : keyF g false [] = []) : g = .nil := by
  cases g with
  | nil => rfl
  | cons a b c =>
    rw [show keyF (.cons a b c) false [] = _ from keyF_cons (a, b) c false []] at h
    obtain ⟨t, ht⟩ := key_class (a, b)
    rw [ht] at h
    simp at h
structure Vn (W w' : World) (L : List Nat) : Prop where
  bl : Below W.heap.size W w'
  no : ∀ g, Wf g → chkL g = 0 → keyF g false [] ≠ L
/-- Where the reader is. -/
def rat (g : Nat) (w : World) : Nat := match w.cell? ⟨g, 1, none⟩ with
  | some (.int _ n) => n.toNat
  | _ => 0
theorem rat_of {g n : Nat} {k : IntKind} {w : World} (h : w.cell? ⟨g, 1, none⟩ = some (.int k (n : Int))) : rat g w = n := by unfold rat; rw [h]; simp
set_option maxRecDepth 8000 in
set_option maxHeartbeats 4000000 in
theorem values_any (s : ByteArray) (hN : s.size ≤ 1000000000) (hcnt : s.size ≤ 90000 ∨ ∃ g, Wf g ∧ chkL g = 0 ∧ bts s = keyF g false [] ∧ g.list.length ≤ 90000) (W : World) (hm : Mx W) :
    Calls Tryz.prog 10 #[.string s] W fun e w' => (∃ f ka kc, e = .returned (.tuple #[.slice ka f.list.length kc, .int .i64 0]) ∧ Hid (Vs W w' (bts s) f ka kc)) ∨ (e = .returned (.tuple #[.slice none 0 0, .int .i64 3]) ∧ Hid (Vn W w' (bts s))) := by
  have HM : Hid (Mx W) := hm
  have HCn : Hid (s.size ≤ 90000 ∨ ∃ g, Wf g ∧ chkL g = 0 ∧ bts s = keyF g false [] ∧ g.list.length ≤ 90000) := hcnt
  clear hm hcnt
  obtain ⟨w1, HW1⟩ : ∃ w1, Hid (W.alloc (.cells #[.string s, .int .i64 0, .bool false] 58) = w1) := ⟨_, rfl⟩
  have HT0 : Hid (TL 58 w1.heap.size W.heap.size W w1 [.string s, .int .i64 ((0 : Nat) : Int), .bool false] .nil (.slice none 0 0) [] []) := by
    have hb : Blk w1 W.heap.size 58 [.string s, .int .i64 0, .bool false] := by rw [← HW1.out]; exact blk_new W _ _
    have hbl : Below W.heap.size W w1 := by rw [← HW1.out]; exact (Below.refl _ _).alloc (Nat.le_refl _) _
    exact ⟨hb, hbl, World.ownsRow_nil _ _ _ _, ⟨rfl, rfl⟩, fun x hx => (by cases hx), Nat.le_refl _, Nat.le_refl _, hb.lt⟩
  go_enter Tryz.func10, Tryz.ntmps10
  go_wp2
  generalize hWW : World.alloc W _ = W9
  obtain rfl : w1 = W9 := by rw [← hWW, ← HW1.out]
  clear hWW HW1
  go_loopw [5, 6] (fun vl _ wr => ∃ (vk : Value) (j : Nat) (f : Fo) (cs : List Value) (Lf : List Nat), vl = vk ∧ j ≤ s.size ∧ f.list.length ≤ j ∧ Hid (TL 58 w1.heap.size W.heap.size W wr [.string s, .int .i64 (j : Int), .bool false] f vk cs Lf ∧ Tp (bts s) ((bts s).drop j) f ∧ Wf f)) (fun vl _ wr => s.size - rat W.heap.size wr)
  case atStart => exact ⟨_, 0, .nil, [], [], rfl, by omega, by simp [Fo.list], HT0.out, Tp.start _, trivial⟩
  case round =>
    clear HT0
    obtain ⟨vk, j, f, cs, Lf, rfl, hj, hfj, HJ⟩ := hrel
    obtain ⟨ka, kc, rfl, hlv⟩ := HJ.out.1.val
    have HT : Hid (TL 58 w1.heap.size W.heap.size W wr [.string s, .int .i64 (j : Int), .bool false] f (.slice ka f.list.length kc) cs Lf) := HJ.out.1
    have HP : Hid (Tp (bts s) ((bts s).drop j) f) := HJ.out.2.1
    have HWf : Hid (Wf f) := HJ.out.2.2
    have HLv : Hid (Lv wr ka kc f) := hlv
    have c1 : wr.cell? ⟨W.heap.size, 1, none⟩ = some (.int .i64 (j : Int)) := HT.out.blk.cell 1
    have HRa : Hid (rat W.heap.size wr = j) := rat_of c1
    clear HJ hlv
    by_cases hlt : j < s.size
    case neg =>
      have hld : decide ((j : Int) < (s.size : Int)) = false := decide_eq_false (by omega)
      have HF : Hid (Vs W wr (bts s) f ka kc) := by
        refine ⟨HLv.out, HWf.out, HP.out.ck, ?_, HT.out.bl, fun g h1 h2 h3 => ?_⟩
        · have := HP.out.so
          rw [List.drop_of_length_le (by rw [bts_len]; omega), List.append_nil] at this
          exact this.symm
        · obtain ⟨g2, e1, e2, _⟩ := HP.out.co g h1 h2 h3.symm
          rw [List.drop_of_length_le (by rw [bts_len]; omega)] at e2
          rw [keyF_nil e2.symm, app_nil] at e1
          exact e1
      clear HT HP HWf HLv HRa
      go_wp2
      go_ret2
      exact .inl ⟨f, ka, kc, rfl, HF.out⟩
    have hld : decide ((j : Int) < (s.size : Int)) = true := decide_eq_true (by omega)
    have HNe : Hid ((bts s).drop j ≠ []) := fun e => by
      have := congrArg List.length e
      rw [List.length_drop, bts_len] at this
      simp at this
      omega
    have hr0 : W.heap.size ≠ 0 := by have := HM.out.pos; omega
    have HMr : Hid (Mx wr) := HM.out.below HT.out.bl HM.out.pos
    have KV := value_any 16 1 (by omega) (by omega) W.heap.size s j false wr hj hN hr0 HMr.out HT.out.blk
    clear HLv
    go_wp2_with fail
    refine KV.mono ?_
    rintro e w2 ⟨p, na, nc, ka2, kc2, j2, bad2, rfl, H2⟩
    have HT2 : Hid (TL 58 w1.heap.size W.heap.size W w2 [.string s, .int .i64 (j2 : Int), .bool bad2] f (.slice ka f.list.length kc) cs Lf) := HT.out.read H2.out.ko.blk H2.out.ko.gr
    have HV2 : Hid (∃ Lp, VlL w2 p na nc ka2 kc2 Lp ∧ ∀ x ∈ Lp, w1.heap.size ≤ x ∧ x < w2.heap.size ∧ Value.ownBlock (.slice ka f.list.length kc) ≠ some x) := by
      obtain ⟨Lp, a1, a2⟩ := H2.out.vl
      have h3 := HT.out.sz
      refine ⟨Lp, a1, fun x hx => ?_⟩
      have := a2 x hx
      refine ⟨by omega, by omega, fun c => ?_⟩
      have := (World.ownsRow.lt HT.out.kd x c).2
      omega
    have HWp : Hid (WfV p) := H2.out.wf
    have HVr : Hid (Vr True 1 ((bts s).drop j) false ((bts s).drop j2) bad2 p) := H2.out.vr
    have HM2 : Hid (Mx w2) := HMr.out.kept H2.out.ko.gr (by intro e; injection e with e; exact hr0 e)
    have hj2 : j2 ≤ s.size := H2.out.ko.le
    clear KV H2 HT HMr c1
    go_wp2_with (refine al_zero rfl 38 rfl zer zV ?_)
    intro gx w3 hgx b3 g3
    go_wp2_with (refine st_all rfl 38 (.tmp 6) (.tmp 18) rfl gx 38 zer (six p.1 na nc ka2 p.2.list.length kc2) rfl rfl b3 rfl sV (six_one _ _ _ _ _ _) ?_)
    intro w4 b4 g4
    have hB4 : Below w2.heap.size w2 w4 := below_new g3 hgx g4
    have HT4 : Hid (TL 58 w1.heap.size W.heap.size W w4 [.string s, .int .i64 (j2 : Int), .bool bad2] f (.slice ka f.list.length kc) cs Lf) := HT2.out.below hB4
    have HX4 : Hid (Blk w4 gx 38 (six p.1 na nc ka2 p.2.list.length kc2)) := b4
    have HV4 : Hid (∃ Lp, VlL w4 p na nc ka2 kc2 Lp ∧ ∀ x ∈ Lp, w1.heap.size ≤ x ∧ x < w4.heap.size ∧ Value.ownBlock (.slice ka f.list.length kc) ≠ some x) := by
      obtain ⟨Lp, a1, a2⟩ := HV2.out
      have := hB4.size
      refine ⟨Lp, a1.keep fun x hx => hB4.block x (a2 x hx).2.1, fun x hx => ?_⟩
      have := a2 x hx
      exact ⟨by omega, by omega, this.2.2⟩
    have c2 : w4.cell? ⟨W.heap.size, 2, none⟩ = some (.bool bad2) := HT4.out.blk.cell 2
    clear b3 g3 b4 g4 hB4 HT2 HV2 HM2
    cases bad2 with
    | true =>
      have HF : Hid (Vn W w4 (bts s)) := ⟨HT4.out.bl, fun g hw hc hl => by have := (HP.out.toTc.next HNe.out HVr.out g hw hc hl.symm).1; cases this⟩
      clear HT4 HX4 HV4 HP HVr
      go_wp2
      go_ret2
      exact .inr ⟨rfl, HF.out⟩
    | false =>
      have x0 : w4.cell? ⟨gx, 0, none⟩ = some (.int .i64 p.1.k) := HX4.out.cell 0
      have x1 : w4.cell? ⟨gx, 1, none⟩ = some (.int .i64 p.1.n) := HX4.out.cell 1
      have x2 : w4.cell? ⟨gx, 2, none⟩ = some (.int .i64 p.1.s) := HX4.out.cell 2
      have x3 : w4.cell? ⟨gx, 3, none⟩ = some (.string p.1.t) := HX4.out.cell 3
      have x4 : w4.cell? ⟨gx, 4, none⟩ = some (.slice na p.1.ns.length nc) := HX4.out.cell 4
      have x5 : w4.cell? ⟨gx, 5, none⟩ = some (.slice ka2 p.2.list.length kc2) := HX4.out.cell 5
      have K := vCheck_any p HWp.out na nc ka2 kc2 w4 (by obtain ⟨Lp, a1, _⟩ := HV4.out; exact a1.vl)
      obtain ⟨E, hE⟩ : ∃ E, chkV p 1 = E := ⟨_, rfl⟩
      have HE : Hid (chkV p 1 = E) := hE
      rw [hE] at K
      clear hE
      go_wp2_with fail
      refine K.mono ?_
      rintro e w5 ⟨rfl, hB5⟩
      have HT5 : Hid (TL 58 w1.heap.size W.heap.size W w5 [.string s, .int .i64 (j2 : Int), .bool false] f (.slice ka f.list.length kc) cs Lf) := HT4.out.below hB5
      have HX5 : Hid (Blk w5 gx 38 (six p.1 na nc ka2 p.2.list.length kc2)) := HX4.out.below hB5 HX4.out.lt
      have HV5 : Hid (∃ Lp, VlL w5 p na nc ka2 kc2 Lp ∧ ∀ x ∈ Lp, w1.heap.size ≤ x ∧ x < w5.heap.size ∧ Value.ownBlock (.slice ka f.list.length kc) ≠ some x) := by
        obtain ⟨Lp, a1, a2⟩ := HV4.out
        have := hB5.size
        refine ⟨Lp, a1.keep fun x hx => hB5.block x (a2 x hx).2.1, fun x hx => ?_⟩
        have := a2 x hx
        exact ⟨by omega, by omega, this.2.2⟩
      clear K hB5 HT4 HX4 HV4 x0 x1 x2 x3 x4 x5 c2
      by_cases hE0 : E = 0
      case neg =>
        have hne : (E != 0) = true := by simpa using hE0
        have HF : Hid (Vn W w5 (bts s)) := ⟨HT5.out.bl, fun g hw hc hl => by have := (HP.out.toTc.next HNe.out HVr.out g hw hc hl.symm).2.1; rw [HE.out] at this; exact hE0 this⟩
        clear HT5 HX5 HV5 HP HVr
        go_wp2
        go_ret2
        exact .inr ⟨rfl, HF.out⟩
      subst hE0
      have HP2 : Hid (Tp (bts s) ((bts s).drop j2) (f.snoc p)) := HP.out.step HNe.out HVr.out HE.out
      have hjj : j < j2 := by
        have := HVr.out.pr rfl
        rw [List.length_drop, List.length_drop, bts_len] at this
        omega
      have hfl : f.list.length + 1 ≤ 100000 := by
        rcases HCn.out with h | ⟨g, h1, h2, h3, h4⟩
        · omega
        · obtain ⟨g2, e1, _⟩ := HP.out.co g h1 h2 h3
          have := app_len f g2
          rw [← e1] at this
          omega
      have y0 : w5.cell? ⟨gx, 0, none⟩ = some (.int .i64 p.1.k) := HX5.out.cell 0
      have y1 : w5.cell? ⟨gx, 1, none⟩ = some (.int .i64 p.1.n) := HX5.out.cell 1
      have y2 : w5.cell? ⟨gx, 2, none⟩ = some (.int .i64 p.1.s) := HX5.out.cell 2
      have y3 : w5.cell? ⟨gx, 3, none⟩ = some (.string p.1.t) := HX5.out.cell 3
      have y4 : w5.cell? ⟨gx, 4, none⟩ = some (.slice na p.1.ns.length nc) := HX5.out.cell 4
      have y5 : w5.cell? ⟨gx, 5, none⟩ = some (.slice ka2 p.2.list.length kc2) := HX5.out.cell 5
      obtain ⟨w6, HW6⟩ : ∃ w6, Hid (w5.alloc (.cells #[.int .i64 p.1.k, .int .i64 p.1.n, .int .i64 p.1.s, .string p.1.t, .slice na p.1.ns.length nc, .slice ka2 p.2.list.length kc2] 38) = w6) := ⟨_, rfl⟩
      have HB6 : Hid (Below w5.heap.size w5 w6) := by rw [← HW6.out]; exact (Below.refl _ _).alloc (Nat.le_refl _) _
      have HC6 : Hid (∀ j u, (six p.1 na nc ka2 p.2.list.length kc2)[j]? = some u → w6.cell? ⟨w5.heap.size, j, none⟩ = some u) := fun j u hj => by
        rw [← HW6.out, World.cell?_alloc_new]
        show (six p.1 na nc ka2 p.2.list.length kc2).toArray[j]? = some u
        rw [List.getElem?_toArray]
        exact hj
      have HT6 : Hid (TL 58 w1.heap.size W.heap.size W w6 [.string s, .int .i64 (j2 : Int), .bool false] f (.slice ka f.list.length kc) cs Lf) := HT5.out.below HB6.out
      clear HP HVr HX5
      go_wp2_with (at_builtin; go_must (refine app_kz rfl (.tmp 28) (.tmp 30) rfl w1.heap.size (.slice ka f.list.length kc) f.list.length cs rfl (by rw [HW6.out]; exact HT6.out.kd) w5.heap.size 1 1 (six p.1 na nc ka2 p.2.list.length kc2) rfl rfl (by rw [HW6.out]; exact HC6.out) (six_one _ _ _ _ _ _) hfl (by rw [HW6.out]; exact HT6.out.sz) ?_))
      rw [HW6.out]
      intro vk' w7 o7 g7 a7
      have HT7 : Hid (∃ Lf', TL 58 w1.heap.size W.heap.size W w7 [.string s, .int .i64 (j2 : Int), .bool false] (f.snoc p) vk' (cs ++ six p.1 na nc ka2 p.2.list.length kc2) Lf') := by
        obtain ⟨Lp, a1, a2⟩ := HV5.out
        have hz6 : w6.heap.size = w5.heap.size + 1 := by rw [← HW6.out]; simp
        exact ⟨_, HT5.out.kid a1 a2 HB6.out g7 o7 (by rw [hz6]; exact a7)⟩
      have HR7 : Hid (rat W.heap.size w7 = j2) := by
        obtain ⟨_, h⟩ := HT7.out
        exact rat_of (h.blk.cell 1)
      have HF7 : Hid (Wf (f.snoc p) ∧ (f.snoc p).list.length ≤ j2) := ⟨wf_snoc HWp.out HWf.out, by rw [snoc_list, List.length_append, List.length_singleton]; omega⟩
      clear o7 g7 a7 HB6 HC6 HT6 HT5 HV5 HW6 y0 y1 y2 y3 y4 y5
      go_wp2
      go_roundw
      case rel =>
        obtain ⟨Lf', h⟩ := HT7.out
        exact ⟨vk', j2, f.snoc p, _, Lf', rfl, hj2, HF7.out.2, h, HP2.out, HF7.out.1⟩
      case measure =>
        rw [HR7.out, HRa.out]
        omega
end Go.Proofs.YtmlfhplhiedfjaaGreatDoor
namespace Go.Proofs.YtmlfhplhiedfjaaGreatDoor
open Go.RowKit Math
set_option linter.unusedVariables false
set_option linter.unusedSimpArgs false
theorem own_lit (w : World) (l : List Nat) (base : Nat) (hb : base ≤ w.heap.size) (hl : l.length ≤ 1000) : Own (w.alloc (.cells (vals l).toArray 5)) base (.slice (some ⟨w.heap.size, 0, none⟩) l.length l.length) l := by
  have h := World.ownsRow_lit (base := base) (e := 5) (size := 1) w (vals l).toArray l.length hb (by unfold maxLen; omega) (by simp [vals_length])
  unfold Own
  simpa using h
set_option maxRecDepth 8000 in
theorem rNum_zero (k s : Int) (t : ByteArray) (na : Option Addr) (nl nc : Nat) (ka : Option Addr) (kl kc : Nat) (W : World) :
    Calls Tryz.prog 131 #[.agg #[.int .i64 k, .int .i64 0, .int .i64 s, .string t, .slice na nl nc, .slice ka kl kc]] W fun e w' => ∃ v', e = .returned v' ∧ Own w' W.heap.size v' [128] ∧ Below W.heap.size W w' := by
  obtain ⟨W1, HW1⟩ : ∃ W1, Hid (W.alloc (.cells #[.int .i64 k, .int .i64 0, .int .i64 s, .string t, .slice na nl nc, .slice ka kl kc] 38) = W1) := ⟨_, rfl⟩
  have hz1 : W1.heap.size = W.heap.size + 1 := by have := HW1.out; subst this; simp
  have HB1 : Hid (Below W.heap.size W W1) := by rw [← HW1.out]; exact (Below.refl _ _).alloc (Nat.le_refl _) _
  have HO : Hid (Own (W1.alloc (.cells #[.int .u8 128] 5)) W.heap.size (.slice (some ⟨W.heap.size + 1, 0, none⟩) 1 1) [128]) := by
    have := own_lit W1 [128] W.heap.size (by omega) (by simp)
    rw [hz1] at this
    exact this
  have HB2 : Hid (Below W.heap.size W (W1.alloc (.cells #[.int .u8 128] 5))) := HB1.out.alloc (by omega) _
  go_enter Tryz.func131, Tryz.ntmps131
  go_wp2
  generalize hWW : World.alloc W _ = W9
  obtain rfl : W1 = W9 := by rw [← hWW, ← HW1.out]
  clear hWW HW1
  go_ret
  exact ⟨_, rfl, HO.out, HB2.out⟩
theorem txD_at {l : List Nat} (h : ∀ x ∈ l, x < 10) (j : Nat) (hj : j < (txD l).size) : ((txD l)[j]'hj).toNat = 48 + l.getD j 0 := by
  rw [← bts_get _ _ hj, txD_bts h]
  rw [txD_size] at hj
  simp [List.getD_eq_getElem?_getD, hj]
theorem txD_take {l : List Nat} (h : ∀ x ∈ l, x < 10) (j : Nat) (hj : j ≤ l.length) : (txD l).extract 0 j = txD (l.take j) := by
  apply bts_inj
  rw [bts_take _ _ (by rw [txD_size]; exact hj), txD_bts h, txD_bts (fun x hx => h x (List.mem_of_mem_take hx)), List.map_take]
theorem own_mono {w : World} {b c : Nat} {v : Value} {l : List Nat} (h : Own w b v l) (hc : c ≤ b) : Own w c v l := by
  unfold Own at h ⊢
  rcases h with ⟨h1, h2 | ⟨g, cap, cur, e1, e2, e3⟩⟩
  · exact ⟨h1, .inl h2⟩
  · exact ⟨h1, .inr ⟨g, cap, cur, e1, Nat.le_trans hc e2, e3⟩⟩
theorem take_getD (l : List Nat) (k j : Nat) (h : j < k) : (l.take k).getD j 0 = l.getD j 0 := by
  rw [List.getD_eq_getElem?_getD, List.getD_eq_getElem?_getD, List.getElem?_take, if_pos h]
set_option maxRecDepth 8000 in
set_option maxHeartbeats 2000000 in
theorem rNum_any (k n s : Int) (t : ByteArray) (na : Option Addr) (nl nc : Nat) (ka : Option Addr) (kl kc : Nat) (W : World) (hn : n ≠ 0) (n0 : -9223372036854775808 ≤ n) (n1 : n < 9223372036854775808) (hs0 : 0 ≤ s) (hs1 : s ≤ 18) :
    Calls Tryz.prog 131 #[.agg #[.int .i64 k, .int .i64 n, .int .i64 s, .string t, .slice na nl nc, .slice ka kl kc]] W fun e w' => ∃ v', e = .returned v' ∧ Own w' W.heap.size v' (numB n s) ∧ Below W.heap.size W w' := by
  obtain ⟨W1, HW1⟩ : ∃ W1, Hid (W.alloc (.cells #[.int .i64 k, .int .i64 n, .int .i64 s, .string t, .slice na nl nc, .slice ka kl kc] 38) = W1) := ⟨_, rfl⟩
  have HX : Hid (Blk W1 W.heap.size 38 (box6 k n s t na nl nc ka kl kc)) := by rw [← HW1.out]; exact blk_new W 38 (box6 k n s t na nl nc ka kl kc)
  have HZ1 : Hid (W1.heap.size = W.heap.size + 1) := by have := HW1.out; subst this; show _ = _; simp
  have HB1 : Hid (Below W.heap.size W W1) := by rw [← HW1.out]; exact (Below.refl _ _).alloc (Nat.le_refl _) _
  obtain ⟨m, hm⟩ : ∃ m, m = n.natAbs := ⟨_, rfl⟩
  have hm0 : 0 < m := by omega
  have hm2 : m < 10000000000000000000 := by omega
  have KA := abs_any n n0 n1 W1
  rw [← hm] at KA
  have KD := dec_any m hm0 (by omega) W1
  have HNb : Hid (numB n s = if n < 0 then turnB (posB m s) else posB m s) := by
    show _ = _
    unfold numB
    rw [if_neg hn, hm]
  have HP : Hid (posB m s = (192 + ((dgs 20 m).length : Int) - s).toNat :: ((trz (dgs 20 m)).map (· + 1) ++ [0])) := rfl
  have HPo : Hid (Oct (posB m s)) := posB_oct m s hm2 hs0 hs1
  have hDl : (dgs 20 m).length ≤ 19 := by
    rw [dgs_fuel 19 m (by show m < 10 ^ 19; omega) 20 (by omega)]
    exact dgs_len 19 m
  have hDp : 0 < (dgs 20 m).length := dgs_pos 19 m (by omega)
  have HDd : Hid (∀ x ∈ dgs 20 m, x < 10) := dgs_lt 20 m
  have HDh : Hid ((dgs 20 m).getD 0 0 ≠ 0) := dgs_head 20 m (by show m < 10 ^ 20; omega) hm0
  have hDs : (txD (dgs 20 m)).size = (dgs 20 m).length := txD_size _
  have hn0 : (n == 0) = false := beq_eq_false_iff_ne.2 hn
  generalize dgs 20 m = D at *
  generalize posB m s = P at *
  clear hm hm0 hm2
  go_enter Tryz.func131, Tryz.ntmps131
  go_wp2_with fail
  generalize hWW : World.alloc W _ = W9
  obtain rfl : W1 = W9 := by rw [← hWW, ← HW1.out]
  clear hWW HW1
  refine KA.mono ?_
  rintro e w1 ⟨rfl, hw1⟩
  have hw1' := hw1.symm
  subst hw1'
  clear KA hw1
  go_wp2_with fail
  refine KD.mono ?_
  rintro e w2 ⟨rfl, b2⟩
  have HB2 : Hid (Below W1.heap.size W1 w2) := b2
  have c2 : w2.cell? ⟨W.heap.size, 2, none⟩ = some (.int .i64 s) := (HX.out.below b2 HX.out.lt).cell 2
  clear KD b2
  go_wp2
  clear c2
  go_loop [3] (fun q => ∃ j : Nat, j < D.length ∧ q = .string (txD (D.take (j + 1))) ∧ Hid (∀ i, j + 1 ≤ i → i < D.length → D.getD i 0 = 0)) (fun q => match q with | .string b => b.size | _ => 0)
  case atStart => exact ⟨D.length - 1, by omega, by rw [List.take_of_length_le (by omega)], fun i h1 h2 => absurd h2 (by omega)⟩
  case round =>
    obtain ⟨j, hj, rfl, HZ⟩ := hrel
    have HEd : Hid (∀ x ∈ D.take (j + 1), x < 10) := fun x hx => HDd.out x (List.mem_of_mem_take hx)
    obtain ⟨S, hS⟩ : ∃ S, txD (D.take (j + 1)) = S := ⟨_, rfl⟩
    have hSs : S.size = j + 1 := by rw [← hS, txD_size, List.length_take]; omega
    have hat : (S[j]'(by omega)).toNat = 48 + D.getD j 0 := by
      subst hS
      rw [txD_at HEd.out j (by omega), take_getD D (j + 1) j (by omega)]
    have hex : S.extract 0 j = txD (D.take j) := by
      rw [← hS, txD_take HEd.out j (by rw [List.length_take]; omega), List.take_take, Nat.min_eq_left (by omega)]
    rw [hS]
    have HSe : Hid (txD (D.take (j + 1)) = S) := hS
    clear hS
    have hd10 : D.getD j 0 < 10 := by
      have : D.getD j 0 ∈ D := by rw [List.getD_eq_getElem?_getD, List.getElem?_eq_getElem hj]; exact List.getElem_mem _
      exact HDd.out _ this
    by_cases hz : D.getD j 0 = 0
    · obtain ⟨j, rfl⟩ : ∃ i, j = i + 1 := ⟨j - 1, by
        rcases Nat.eq_zero_or_pos j with rfl | h
        · exact absurd hz HDh.out
        · omega⟩
      rw [hz] at hat
      have hati : (((S[j + 1]'(by omega)).toNat : Nat) : Int) = 48 := by rw [hat]; rfl
      have HZ2 : Hid (∀ i, j + 1 ≤ i → i < D.length → D.getD i 0 = 0) := fun i h1 h2 => by
        rcases Nat.lt_or_ge i (j + 1 + 1) with h | h
        · rw [show i = j + 1 by omega]; exact hz
        · exact HZ.out i h h2
      have hS2 : (txD (D.take (j + 1))).size = j + 1 := by rw [txD_size, List.length_take]; omega
      clear hat HZ
      go_wp2
      go_round
      case rel => exact ⟨j, by omega, rfl, HZ2.out⟩
      case measure => simp [hS2, hSs]
    · have htr : trz D = D.take (j + 1) := trz_take D (j + 1) (by omega) HZ.out (fun _ => by rw [Nat.add_sub_cancel]; exact hz)
      obtain ⟨E, hE⟩ : ∃ E, D.take (j + 1) = E := ⟨_, rfl⟩
      have hEl : E.length = j + 1 := by rw [← hE, List.length_take]; omega
      have HEd2 : Hid (∀ x ∈ E, x < 10) := by rw [← hE]; exact HEd.out
      have HSE : Hid (S = txD E) := by rw [← hE]; exact HSe.out.symm
      obtain ⟨X, hX⟩ : ∃ X : Nat, X = (192 + (D.length : Int) - s).toNat := ⟨_, rfl⟩
      have hX1 : 192 + ((D.length : Int) - s) = (X : Int) := by omega
      have hX2 : X < 256 := by omega
      have HP2 : Hid (P = X :: (E.map (· + 1) ++ [0])) := by show _ = _; rw [HP.out, htr, hE, ← hX]
      have hati : (((S[j]'(by omega)).toNat : Nat) : Int) = 48 + ((D.getD j 0 : Nat) : Int) := by rw [hat]; omega
      obtain ⟨d, hd⟩ : ∃ d, d = D.getD j 0 := ⟨_, rfl⟩
      rw [← hd] at hati hz hd10
      have hne48 : ((48 + (d : Int)) == 48) = false := beq_eq_false_iff_ne.2 (by omega)
      have hO : Own (w2.alloc (.cells #[.int .u8 (X : Int)] 5)) W1.heap.size (.slice (some ⟨w2.heap.size, 0, none⟩) 1 1) [X] := own_lit w2 [X] W1.heap.size HB2.out.size (by simp)
      have HO : Hid _ := hO
      have HB3 : Hid (Below W1.heap.size W1 (w2.alloc (.cells #[.int .u8 (X : Int)] 5))) := HB2.out.alloc HB2.out.size _
      clear htr hE hat hex HSe HZ HEd hX HP hd hO hDs hDp
      go_wp2
      clear hati hne48
      go_loopw [5, 6] (fun vb i wr => ∃ c : Nat, c ≤ j + 1 ∧ i = .int .i64 (c : Int) ∧ Hid (Own wr W1.heap.size vb (X :: (E.take c).map (· + 1))) ∧ Hid (Below W1.heap.size W1 wr)) (fun _ i _ => (j + 1) - (intOf i).toNat)
      case atStart => exact ⟨0, by omega, rfl, HO.out, HB3.out⟩
      case round =>
        clear HO HB3
        obtain ⟨c, hc, rfl, HO, HB⟩ := hrel
        have hln : (X :: (E.take c).map (· + 1)).length = c + 1 := by simp [List.length_take]; omega
        by_cases hlt : c < j + 1
        · obtain ⟨y, hy⟩ : ∃ y, y = E.getD c 0 := ⟨_, rfl⟩
          have hy10 : y < 10 := by
            rw [hy, List.getD_eq_getElem?_getD, List.getElem?_eq_getElem (by omega)]
            exact HEd2.out _ (List.getElem_mem _)
          have hsi : (((S[c]'(by omega)).toNat : Nat) : Int) = 48 + (y : Int) := by
            have hcs : c < (txD E).size := by rw [txD_size]; omega
            have h1 := txD_at HEd2.out c hcs
            have h2 : (S[c]'(by omega)).toNat = ((txD E)[c]'hcs).toNat := by
              have := HSE.out
              subst this
              rfl
            rw [h2, h1, hy]
            omega
          have HT : Hid (X :: (E.take (c + 1)).map (· + 1) = (X :: (E.take c).map (· + 1)) ++ [y + 1]) := by
            show _ = _
            rw [List.take_add_one, List.getElem?_eq_getElem (by omega), Option.toList_some, List.map_append, hy, List.getD_eq_getElem?_getD, List.getElem?_eq_getElem (by omega)]
            rfl
          have hBs := HB.out.size
          obtain ⟨lk, HLK⟩ : ∃ lk, Hid (X :: (E.take c).map (· + 1) = lk) := ⟨_, rfl⟩
          rw [HLK.out] at hln HT
          have HO' : Hid (Own wr W1.heap.size u5 lk) := by rw [← HLK.out]; exact HO.out
          have hbl : Byt (wr.alloc (.cells #[.int .u8 (48 + (y : Int) - 48 + 1)] 5)) (some ⟨wr.heap.size, 0, none⟩) [y + 1] := by
            rw [show 48 + (y : Int) - 48 + 1 = ((y + 1 : Nat) : Int) by omega]
            exact byt_lit wr [y + 1]
          clear hy HO HLK
          go_wp2_with (at_builtin; go_must (refine ap_bytes rfl (.tmp 42) (.tmp 48) rfl W1.heap.size u5 lk rfl (HO'.out.alloc _) _ _ _ [y + 1] rfl rfl hbl (by simp) (by simp only [List.length_singleton]; omega) (by simp; omega) ?_))
          intro v1 x1 A1
          have HO1 : Hid (Own x1 W1.heap.size v1 (X :: (E.take (c + 1)).map (· + 1))) := by rw [HT.out]; exact A1.own
          have HBx : Hid (Below W1.heap.size W1 x1) := (Ap.after ((Below.refl _ _).alloc (Nat.le_refl _) _) A1).below HO'.out HB.out HB.out.size (Nat.le_refl _)
          clear A1 hbl HO'
          go_wp2
          go_roundw
          case rel => exact ⟨c + 1, by omega, by go_num, HO1.out, HBx.out⟩
          case measure => simp [intOf]; omega
        · obtain rfl : c = j + 1 := by omega
          rw [List.take_of_length_le (by omega)] at hln
          have HO' : Hid (Own wr W1.heap.size u5 (X :: E.map (· + 1))) := by
            have := HO.out
            rw [List.take_of_length_le (by omega)] at this
            exact this
          have hBs := HB.out.size
          clear HO
          go_wp2_with (at_builtin; go_must (refine ap_bytes rfl (.tmp 50) (.tmp 51) rfl W1.heap.size u5 (X :: E.map (· + 1)) rfl (HO'.out.alloc _) _ _ _ [0] rfl rfl (byt_lit wr [0]) (by simp) (by simp only [List.length_singleton]; omega) (by simp; omega) ?_))
          intro v1 x1 A1
          have HO1 : Hid (Own x1 W1.heap.size v1 P) := by rw [HP2.out]; exact A1.own
          have HBx : Hid (Below W1.heap.size W1 x1) := (Ap.after ((Below.refl _ _).alloc (Nat.le_refl _) _) A1).below HO'.out HB.out HB.out.size (Nat.le_refl _)
          have hPl : P.length ≤ 30 := by rw [HP2.out]; simp; omega
          have hPp : 0 < P.length := by rw [HP2.out]; simp
          clear A1 HO' HB
          obtain ⟨g, cp, rfl, hg1, hg2, hlc, hcm, _⟩ := HO1.out.form hPp
          have c1 : x1.cell? ⟨W.heap.size, 1, none⟩ = some (.int .i64 n) := (HX.out.below HBx.out HX.out.lt).cell 1
          unfold maxLen at hcm
          have HO2 : Hid (Own x1 W1.heap.size (.slice (some ⟨g, 0, none⟩) P.length cp) (trn P 0 0)) := by rw [trn_zero]; exact HO1.out
          clear HO1 HP2 HSE HEd2 hlt
          go_wp2
          clear c1
          go_loopw [7] (fun i x2 => ∃ c : Nat, c ≤ P.length ∧ (n < 0 ∨ c = 0) ∧ i = .int .i64 (c : Int) ∧ Hid (Own x2 W1.heap.size (.slice (some ⟨g, 0, none⟩) P.length cp) (trn P 0 c)) ∧ Hid (Below W1.heap.size W1 x2)) (fun i _ => P.length - (intOf i).toNat)
          case atStart => exact ⟨0, by omega, .inr rfl, rfl, HO2.out, HBx.out⟩
          case round =>
            clear HO2 HBx
            obtain ⟨c, hc, hnc, rfl, HO3, HB3⟩ := hrel
            have c1 : wr.cell? ⟨W.heap.size, 1, none⟩ = some (.int .i64 n) := (HX.out.below HB3.out HX.out.lt).cell 1
            by_cases hneg : n < 0
            · have hni : decide (n < 0) = true := decide_eq_true hneg
              by_cases hlt : c < P.length
              · have o3 := HO3.out
                have hce := World.ownsRow.cellAt (by unfold Own at o3; rw [trn_len] at o3; exact o3) c (by omega)
                rw [vals_get _ c (by rw [trn_len]; omega)] at hce
                have hfz : wr.frozen? ⟨g, c, none⟩ = false := World.ownsRow.frozenAt (by unfold Own at o3; rw [trn_len] at o3; exact o3) c
                have hv : (trn P 0 c).getD c 0 = P.getD c 0 := by
                  rw [List.getD_eq_getElem?_getD, trn_get P 0 c _ (by omega), if_neg (by omega)]; rfl
                rw [hv] at hce
                have hx := oct_get HPo.out c
                have HXo := xor_u8 _ hx
                have o4 := own_put (trn_len P 0 c) o3 c (255 - P.getD c 0)
                have hts := trn_set P 0 c
                rw [Nat.zero_add] at hts
                rw [hts] at o4
                have HO4 : Hid (Own (wr.setCell ⟨g, c, none⟩ (.int .u8 ((255 - P.getD c 0 : Nat) : Int))) W1.heap.size (.slice (some ⟨g, 0, none⟩) P.length cp) (trn P 0 (c + 1))) := o4
                have HB4 : Hid (Below W1.heap.size W1 (wr.setCell ⟨g, c, none⟩ (.int .u8 ((255 - P.getD c 0 : Nat) : Int)))) := HB3.out.setCell hg1 _
                clear o3 o4 hv hts HO3 HB3
                generalize hz : 255 - P.getD c 0 = z at *
                generalize P.getD c 0 = x at *
                go_wp2
                go_roundw
                case rel => exact ⟨c + 1, by omega, .inl hneg, by go_num, HO4.out, HB4.out⟩
                case measure => simp [intOf]; omega
              · obtain rfl : c = P.length := by omega
                have HF : Hid (Own wr W.heap.size (.slice (some ⟨g, 0, none⟩) P.length cp) (numB n s) ∧ Below W.heap.size W wr) := by
                  refine ⟨?_, HB1.out.trans (HB3.out.mono HB1.out.size)⟩
                  rw [HNb.out, if_pos hneg]
                  have h1 := trn_end [] P
                  simp only [List.nil_append, List.length_nil] at h1
                  have h2 := own_mono HO3.out HB1.out.size
                  rw [h1] at h2
                  exact h2
                clear HO3 HB3
                go_wp2
                go_ret
                exact ⟨_, rfl, HF.out⟩
            · have hni : decide (n < 0) = false := decide_eq_false hneg
              obtain rfl : c = 0 := by omega
              have HF : Hid (Own wr W.heap.size (.slice (some ⟨g, 0, none⟩) P.length cp) (numB n s) ∧ Below W.heap.size W wr) := by
                refine ⟨?_, HB1.out.trans (HB3.out.mono HB1.out.size)⟩
                rw [HNb.out, if_neg hneg]
                have h2 := own_mono HO3.out HB1.out.size
                rw [trn_zero] at h2
                exact h2
              clear HO3 HB3
              go_wp2
              go_ret
              exact ⟨_, rfl, HF.out⟩
theorem rNum (k n s : Int) (t : ByteArray) (na : Option Addr) (nl nc : Nat) (ka : Option Addr) (kl kc : Nat) (W : World) (n0 : -9223372036854775808 ≤ n) (n1 : n < 9223372036854775808) (hs0 : 0 ≤ s) (hs1 : s ≤ 18) :
    Calls Tryz.prog 131 #[.agg #[.int .i64 k, .int .i64 n, .int .i64 s, .string t, .slice na nl nc, .slice ka kl kc]] W fun e w' => ∃ v', e = .returned v' ∧ Own w' W.heap.size v' (numB n s) ∧ Below W.heap.size W w' := by
  by_cases hn : n = 0
  · subst hn
    rw [numB_zero]
    exact rNum_zero k s t na nl nc ka kl kc W
  · exact rNum_any k n s t na nl nc ka kl kc W hn n0 n1 hs0 hs1
end Go.Proofs.YtmlfhplhiedfjaaGreatDoor
