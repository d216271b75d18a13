/-
  codec's reader: value, at what has no kids.
-/
import Derived.Test.YtmbglggodifboaaGreatDoorSG25x
namespace Go.Proofs.YtmbglggodifboaaGreatDoor
open Go.RowKit Math
set_option linter.unusedVariables false
set_option linter.unusedSimpArgs false
/-- What is read behind a kind's byte. -/
def kdR (d : Nat) (k : Nat) : Rdr Vt :=
      if k = 1 then .ret (lf 1 0 0 em)
      else if k = 2 then byR.bind fun x => if 1 < x then .no 3 else .ret (lf 2 x 0 em)
      else if k = 3 then uvR.bind fun u => .ret (lf 3 (zagS u) 0 em)
      else if k = 4 then uvR.bind fun u => byR.bind fun x => .ret (lf 4 (zagS u) x em)
      else if k = 5 then uvR.bind fun u => .ret (lf 5 (wr64 u) 0 em)
      else if k = 6 then txR.bind fun t => .ret (lf 6 0 0 t)
      else if k = 7 then txR.bind fun t => .ret (lf 7 0 0 t)
      else if k = 8 then lenR.bind fun n => (rdN (fun l => rdV d l) false n).bind fun q => .ret (nst 8 q)
      else if k = 9 then lenR.bind fun n => (rdN (fun l => rdV d l) true n).bind fun q => .ret (nst 9 q)
      else .no 3
theorem rdV_kd (d : Nat) : rdV (d + 1) = byR.bind (kdR d) := rfl
def neR (d k : Nat) (b : Bool) : Rdr Vt := lenR.bind fun n => (rdN (fun l => rdV d l) b n).bind fun q => .ret (nst k q)
def ValP (F : Nat) (f : Rdr Vt) (args : Nat → Array Value) : Prop := ∀ (w0 W : World) (r : Nat) (ab : Option Addr) (cb : Nat) (L : List Nat) (i : Nat) (err : Int), En w0 W r ab cb L → Blk W r 170 [.slice ab L.length cb, .int .i64 (i : Int), .int .i64 err] → i ≤ L.length → (err = 0 → Sm f L i) → (err = 0 → 0 < L.length) →
  Calls Tryz.prog F (args r) W fun e w' => ∃ p na nc ka kc j err' rf, e = .returned (.tuple #[.agg #[.int .i64 p.1.k, .int .i64 p.1.n, .int .i64 p.1.s, .string p.1.t, .slice na p.1.ns.length nc, .slice ka p.2.list.length kc], .int .i64 rf]) ∧ Hid (Vo f r ab cb L W w' i err p na nc ka kc j err' rf)
theorem wr_conv (u : Nat) (hu : u < 18446744073709551616) : wrap64 (u : Int) = wr64 u := by
  unfold wrap64 wr64
  split <;> omega
set_option maxRecDepth 8000 in
set_option maxHeartbeats 2000000 in
theorem val_deep (dp : Int) (hdp : dp = 17) : ValC 127 (rdV 0) (fun r => #[.pointer (some ⟨r, 0, none⟩), .int .i64 dp]) := by
  intro w0 W r ab cb L i err hE hb hi hsm
  have HE : Hid (En w0 W r ab cb L) := hE
  have Hr : Hid (Blk W r 170 [.slice ab L.length cb, .int .i64 (i : Int), .int .i64 err]) := hb
  have HSm : Hid (err = 0 → Sm (rdV 0) L i) := hsm
  clear hE hb hsm
  show Calls _ _ #[.pointer (some ⟨r, 0, none⟩), .int .i64 dp] _ _
  go_enter Tryz.func127, Tryz.ntmps127
  go_wp2_with (refine al_zero rfl 41 rfl zer z25 ?_)
  intro g4 w1 hg4 B4 gr4
  have G1 : Hid (Below W.heap.size W w1) := (Below.refl _ _).grown gr4 (Nat.le_refl _) (fun k e => by cases e)
  have HE1 : Hid (En w0 w1 r ab cb L) := HE.out.below G1.out
  have Hr1 : Hid (Blk w1 r 170 [.slice ab L.length cb, .int .i64 (i : Int), .int .i64 err]) := Hr.out.below G1.out Hr.out.lt
  have HB4 : Hid (Blk w1 g4 41 zer) := B4
  have hr4 : r < g4 := by have := Hr.out.lt; omega
  clear B4 gr4 Hr HE
  have K9 := fail_any r ab cb L.length i hi err 9 w1 Hr1.out
  obtain ⟨E, HEE⟩ : ∃ E, Hid ((if err ≠ 0 then err else 9) = E) := ⟨_, rfl⟩
  rw [HEE.out] at K9
  have hE0 : E ≠ 0 := by
    rw [← HEE.out]
    by_cases h : err = 0
    · simp [h]
    · simp [h]
  have hdp2 : decide ((16 : Int) < dp) = true := by simp; omega
  go_wp2_with fail
  refine K9.mono ?_
  clear K9
  rintro e v1 ⟨rfl, H9⟩
  have HR9 : Hid (Ro r ab cb L.length W v1 i E) := Ro.after G1.out H9.out
  have HEn : Hid (En w0 v1 r ab cb L) := HE1.out.ro H9.out
  have HBn : Hid (Blk v1 r 170 [.slice ab L.length cb, .int .i64 (i : Int), .int .i64 E]) := H9.out.blk
  have HB4v : Hid (Blk v1 g4 41 zer) := HB4.out.kept H9.out.gr (by intro c; injection c with c; omega)
  clear HB4 H9 HE1 Hr1
  go_wp2_with fail
  refine (next_any w0 v1 r ab cb L i E HEn.out HBn.out hi).mono ?_
  rintro e w2 ⟨x, j1, e1, rfl, hx, hx0, H1⟩
  have HX0 : Hid (e1 ≠ 0 → x = 0) := hx0
  clear hx0
  go_wp2_with (refine al_zero rfl 41 rfl zer z25 ?_)
  intro g6 w3 hg6 B6 gr6
  go_wp2_with (refine st_all rfl 41 (.tmp 6) (.tmp 13) rfl g6 41 zer [.int .i64 (x : Int), .int .i64 0, .int .i64 0, .string ⟨#[]⟩, .slice none 0 0, .slice none 0 0] rfl rfl B6 rfl s25 (by simp [Value.oneCell']) ?_)
  intro w4 B6' gr6'
  have G4 : Hid (Below w2.heap.size w2 w4) := below_new gr6 hg6 gr6'
  have HF : Hid (Fr r ab cb L W w4 g4 g6 [.int .i64 (x : Int), .int .i64 0, .int .i64 0, .string ⟨#[]⟩, .slice none 0 0, .slice none 0 0] j1 e1) := by
    have b4 : Blk w2 g4 41 zer := HB4v.out.kept H1.out.1.gr (by intro c; injection c with c; omega)
    refine ⟨(HR9.out.trans H1.out.1).then G4.out, b4.below G4.out b4.lt, B6', hr4, ?_, by omega⟩
    have := b4.lt
    omega
  have HS1 : Hid (St byR L i E j1 e1 x) := H1.out.2
  have HE4 : Hid (En w0 w4 r ab cb L) := (HEn.out.ro H1.out.1).below G4.out
  have c0 : w4.cell? ⟨g6, 0, none⟩ = some (.int .i64 (x : Int)) := HF.out.b6.cell 0
  clear G4 H1 B6 B6' gr6 gr6' HEn HBn
  obtain ⟨_, rfl, rfl⟩ : E ≠ 0 ∧ j1 = i ∧ e1 = E := by
    rcases HS1.out with h | ⟨h, _⟩
    · exact h
    · exact absurd h hE0
  obtain rfl : x = 0 := HX0.out hE0
  have KF := fail_any r ab cb L.length j1 HF.out.ro.le e1 3 w4 HF.out.ro.blk
  obtain ⟨E2, HE2⟩ : ∃ E2, Hid ((if e1 ≠ 0 then e1 else 3) = E2) := ⟨_, rfl⟩
  rw [HE2.out] at KF
  go_wp2_with fail
  refine KF.mono ?_
  clear KF c0
  rintro e v5 ⟨rfl, H5⟩
  have HF5 : Hid (Fr r ab cb L W v5 g4 g6 [.int .i64 0, .int .i64 0, .int .i64 0, .string ⟨#[]⟩, .slice none 0 0, .slice none 0 0] j1 E2) := HF.out.prim H5.out
  clear HF H5
  have HF : Hid (Fr r ab cb L W v5 g4 g6 [.int .i64 0, .int .i64 0, .int .i64 0, .string ⟨#[]⟩, .slice none 0 0, .slice none 0 0] j1 E2) := HF5.out
  clear HF5
  have HWF0 : Hid (WfV (lf 0 0 0 ⟨#[]⟩)) := wf_lf 0 0 0 ⟨#[]⟩ (by omega) (by omega) (by omega) (by decide)
  have HST : Hid (St (rdV 0) L j1 err j1 E2 (lf 0 0 0 ⟨#[]⟩)) := by
    rw [← HE2.out, if_pos hE0, ← HEE.out]
    exact st_no 9 (by decide) _ L j1 err
  go_wp2
  have HWF : Hid (WfV (lf 0 0 0 ⟨#[]⟩)) := HWF0.out
  clear HWF0
  obtain ⟨C, hC⟩ : ∃ C : World → Prop, C = fun w' => Blk w' g6 41 [.int .i64 0, .int .i64 0, .int .i64 0, .string ⟨#[]⟩, .slice none 0 0, .slice none 0 0] := ⟨_, rfl⟩
  have CN : Hid (∀ w', C w' → Nd w' g6 0 ⟨0, 0, 0, ⟨#[]⟩, []⟩ none 0 none 0 0) := fun w' h => by rw [hC] at h; exact ⟨h.cell 0, h.cell 1, h.cell 2, h.cell 3, h.cell 4, h.cell 5⟩
  have CB : Hid (∀ w1 w2, C w1 → Below w1.heap.size w1 w2 → C w2) := fun w1 w2 h k => by rw [hC] at h ⊢; exact h.below k h.lt
  have CS : Hid (∀ w1 w2, C w1 → w1.grownBy w2 (some g4) → C w2) := fun w1 w2 h k => by rw [hC] at h ⊢; exact h.kept k (by intro c; injection c with c; have := HF.out.l46; omega)
  have D0 : Hid (Below v5.heap.size v5 { v5 with drawn := v5.drawn + 1 }) := Below.drew (Below.refl _ _)
  have HF0 : Hid (Fr r ab cb L W { v5 with drawn := v5.drawn + 1 } g4 g6 [.int .i64 0, .int .i64 0, .int .i64 0, .string ⟨#[]⟩, .slice none 0 0, .slice none 0 0] j1 E2) := HF.out.below D0.out
  have C0 : Hid (C { v5 with drawn := v5.drawn + 1 }) := by rw [hC]; exact HF0.out.b6
  refine region_calm C 4 (by kernel_rfl) ?_
  clear D0 HF
  generalize ({ v5 with drawn := v5.drawn + 1 } : World) = v0 at *
  have hCp : ∀ p : Prop, (∀ W, C W → p) ↔ p := fun p => ⟨fun h => h _ C0.out, fun h _ _ => h⟩
  refine seg 3 [0, 1] rfl (by kernel_rfl) whole_blind C0.out (by kernel_rfl) ?_
  change wpQuiet _ _ _ _ (_ :: _ :: []) _
  repeat (first
    | go_big_quiet_skip
    | (go_big_quiet_want
       first
       | (refine q_val (.tmp 6) rfl g6 0 rfl ⟨0, 0, 0, ⟨#[]⟩, []⟩ none 0 none 0 0 CN.out ?_
          simp only [Act.put, List.setIfInBounds_toArray, List.set_cons_zero, List.set_cons_succ]
          go_big_quiet_on)
       | (go_big_quiet_op
          go_big_quiet_on)))
  refine wpQuiet_nil ?_
  refine lone_do (i := 2) 2 rfl (by kernel_rfl) rfl (by rfl) ?_
  intro K hK
  refine oper_call 92 #[.tmp 61] #[41] rfl #[.agg #[.int .i64 0, .int .i64 0, .int .i64 0, .string ⟨#[]⟩, .slice none 0 0, .slice none 0 0]] (by rw [List.map_toArray]; rfl) (enters Tryz.func92 (by kernel_rfl) rfl) (fun v' w' => v' = .int .i64 (chk0V (lf 0 0 0 ⟨#[]⟩)) ∧ Below v0.heap.size v0 w') ((vCheck_any (lf 0 0 0 ⟨#[]⟩) HWF.out none 0 none 0 v0 (vl_lf v0 0 0 0 ⟨#[]⟩).vl).mono fun e' w' ⟨h1, h2⟩ => ⟨_, h1, by rw [chk_lf], h2⟩) ?_
  rintro _ w5 ⟨rfl, hb5⟩
  have HF5 : Hid (Fr r ab cb L W w5 g4 g6 [.int .i64 0, .int .i64 0, .int .i64 0, .string ⟨#[]⟩, .slice none 0 0, .slice none 0 0] j1 E2) := HF0.out.below hb5
  have hc5 := CB.out _ _ C0.out hb5
  refine hK _ _ hc5 ?_
  simp only [Act.put, List.setIfInBounds_toArray, List.set_cons_zero, List.set_cons_succ]
  refine lone_do (i := 3) 1 rfl (by kernel_rfl) rfl (by rfl) ?_
  intro K hK
  refine oper_sta 41 (.tmp 4) (.tmp 60) rfl rfl g4 41 zer [.int .i64 0, .int .i64 0, .int .i64 0, .string ⟨#[]⟩, .slice none 0 0, .slice none 0 0] rfl rfl HF5.out.b4 rfl s25 (by simp [Value.oneCell']) ?_
  intro w6 b6 gr6
  have HB6 : Hid (Blk w6 g4 41 [.int .i64 0, .int .i64 0, .int .i64 0, .string ⟨#[]⟩, .slice none 0 0, .slice none 0 0]) := b6
  have HR6 : Hid (Ro r ab cb L.length W w6 j1 E2) := HF5.out.res b6 gr6
  have hc6 := CS.out _ _ hc5 gr6
  clear b6 gr6 hb5 HF5 HF0
  refine hK _ _ hc6 ?_
  simp only [Act.put, List.setIfInBounds_toArray, List.set_cons_zero, List.set_cons_succ]
  refine lone_calm (i := 4) 0 rfl (by kernel_rfl) rfl rfl hc6 ?_
  have hCq : ∀ p : Prop, (∀ W, C W → p) ↔ p := fun p => ⟨fun h => h _ hc6, fun h _ _ => h⟩
  go_big_quiet_want
  go_big_quiet_op
  go_big_quiet_on
  refine wpQuiet_nil ?_
  refine anyC_done (by kernel_rfl) ⟨rfl, ?_⟩
  clear hc6 hCq hCp hc5 C0 CN CB CS hC
  go_wp2
  refine bodyPost_ret (res_two rfl _ g4 41 _ _ rfl HB6.out Tryz.underlying41 rfl s25) rfl ?_
  exact ⟨(lf 0 0 0 ⟨#[]⟩), none, 0, none, 0, j1, E2, _, rfl, HR6.out, ⟨[], vl_lf w6 0 0 0 ⟨#[]⟩, by simp⟩, HWF.out, HST.out, fun _ => rfl⟩
theorem s9 : (Tryz.prog.info? 9).map (·.size) = some 1 := by kernel_rfl
theorem En.fr {w0 W w W' : World} {r : Nat} {ab : Option Addr} {cb : Nat} {L : List Nat} {g4 g6 : Nat} {cs : List Value} {j : Nat} {e : Int} (h : En w0 W' r ab cb L) (k : Fr r ab cb L W w g4 g6 cs j e) (hb : Below w0.heap.size w0 W) : En w0 w r ab cb L := by
  have := h.lt
  have h1 := k.ro.gr
  exact ⟨h.byt, h.oct, hb.grown h1 hb.size (fun x e => by injection e with e; omega), h.lt, h.len, h.cap, h.cm, h.nil⟩
set_option maxRecDepth 8000 in
set_option maxHeartbeats 2000000 in
theorem val_step (d : Nat) (dp : Int) (hdp : dp ≤ 16)
    (N8 : Hid (ValP 134 (neR d 8 false) (fun r => #[.pointer (some ⟨r, 0, none⟩), .int .i64 8, .int .i64 dp]))) (N9 : Hid (ValP 134 (neR d 9 true) (fun r => #[.pointer (some ⟨r, 0, none⟩), .int .i64 9, .int .i64 dp]))) : ValC 127 (rdV (d + 1)) (fun r => #[.pointer (some ⟨r, 0, none⟩), .int .i64 dp]) := by
  intro w0 W r ab cb L i err hE hb hi hsm
  have HE : Hid (En w0 W r ab cb L) := hE
  have Hr : Hid (Blk W r 170 [.slice ab L.length cb, .int .i64 (i : Int), .int .i64 err]) := hb
  have HSm : Hid (err = 0 → Sm (rdV (d + 1)) L i) := hsm
  have HBW : Hid (Below w0.heap.size w0 W) := hE.bl
  clear hE hb hsm
  show Calls _ _ #[.pointer (some ⟨r, 0, none⟩), .int .i64 dp] _ _
  go_enter Tryz.func127, Tryz.ntmps127
  go_wp2_with (refine al_zero rfl 41 rfl zer z25 ?_)
  intro g4 w1 hg4 B4 gr4
  have G1 : Hid (Below W.heap.size W w1) := (Below.refl _ _).grown gr4 (Nat.le_refl _) (fun k e => by cases e)
  have HE1 : Hid (En w0 w1 r ab cb L) := HE.out.below G1.out
  have Hr1 : Hid (Blk w1 r 170 [.slice ab L.length cb, .int .i64 (i : Int), .int .i64 err]) := Hr.out.below G1.out Hr.out.lt
  have HB4 : Hid (Blk w1 g4 41 zer) := B4
  have hr4 : r < g4 := by have := Hr.out.lt; omega
  clear B4 gr4 Hr HE
  have HEn : Hid (En w0 w1 r ab cb L) := HE1.out
  have HBn : Hid (Blk w1 r 170 [.slice ab L.length cb, .int .i64 (i : Int), .int .i64 err]) := Hr1.out
  have hdp2 : decide ((16 : Int) < dp) = false := by simp; omega
  clear HE1 Hr1
  go_wp2_with fail
  refine (next_any w0 w1 r ab cb L i err HEn.out HBn.out hi).mono ?_
  rintro e w2 ⟨x, j1, e1, rfl, hx, hx0, H1⟩
  have HX0 : Hid (e1 ≠ 0 → x = 0) := hx0
  clear hx0
  go_wp2_with (refine al_zero rfl 41 rfl zer z25 ?_)
  intro g6 w3 hg6 B6 gr6
  go_wp2_with (refine st_all rfl 41 (.tmp 6) (.tmp 13) rfl g6 41 zer [.int .i64 (x : Int), .int .i64 0, .int .i64 0, .string ⟨#[]⟩, .slice none 0 0, .slice none 0 0] rfl rfl B6 rfl s25 (by simp [Value.oneCell']) ?_)
  intro w4 B6' gr6'
  have G4 : Hid (Below w2.heap.size w2 w4) := below_new gr6 hg6 gr6'
  have HF : Hid (Fr r ab cb L W w4 g4 g6 [.int .i64 (x : Int), .int .i64 0, .int .i64 0, .string ⟨#[]⟩, .slice none 0 0, .slice none 0 0] j1 e1) := by
    have b4 : Blk w2 g4 41 zer := HB4.out.kept H1.out.1.gr (by intro c; injection c with c; omega)
    refine ⟨(Ro.after G1.out H1.out.1).then G4.out, b4.below G4.out b4.lt, B6', hr4, ?_, by omega⟩
    have := b4.lt
    omega
  have HS1 : Hid (St byR L i err j1 e1 x) := H1.out.2
  have HE4 : Hid (En w0 w4 r ab cb L) := (HEn.out.ro H1.out.1).below G4.out
  have c0 : w4.cell? ⟨g6, 0, none⟩ = some (.int .i64 (x : Int)) := HF.out.b6.cell 0
  clear G4 H1 B6 B6' gr6 gr6' HEn HBn
  clear HB4 G1
  have hpos : e1 = 0 → 0 < L.length := fun h => by
    rcases HS1.out with ⟨a, _, c⟩ | ⟨_, ⟨b, _, _⟩ | ⟨e, _, c, d⟩⟩
    · exact absurd (c ▸ h) a
    · cases L with
      | nil => simp [byR] at b
      | cons y L => simp
    · omega
  have HP : Hid (e1 = 0 → 0 < L.length) := hpos
  clear hpos
  by_cases k1 : x = 1
  · subst k1
    have HF2 : Hid (Fr r ab cb L W w4 g4 g6 [.int .i64 1, .int .i64 0, .int .i64 0, .string ⟨#[]⟩, .slice none 0 0, .slice none 0 0] j1 e1) := HF.out
    clear HF
    have HF : Hid (Fr r ab cb L W w4 g4 g6 [.int .i64 1, .int .i64 0, .int .i64 0, .string ⟨#[]⟩, .slice none 0 0, .slice none 0 0] j1 e1) := HF2.out
    clear HF2
    have HWF0 : Hid (WfV (lf 1 0 0 ⟨#[]⟩)) := wf_lf 1 0 0 ⟨#[]⟩ (by omega) (by omega) (by omega) (by decide)
    have HST : Hid (St (rdV (d + 1)) L i err j1 e1 (lf 1 0 0 ⟨#[]⟩)) := st_bind HS1.out (st_ret _ L j1 e1)
    go_wp2
    clear c0
    have HWF : Hid (WfV (lf 1 0 0 ⟨#[]⟩)) := HWF0.out
    clear HWF0
    obtain ⟨C, hC⟩ : ∃ C : World → Prop, C = fun w' => Blk w' g6 41 [.int .i64 1, .int .i64 0, .int .i64 0, .string ⟨#[]⟩, .slice none 0 0, .slice none 0 0] := ⟨_, rfl⟩
    have CN : Hid (∀ w', C w' → Nd w' g6 0 ⟨1, 0, 0, ⟨#[]⟩, []⟩ none 0 none 0 0) := fun w' h => by rw [hC] at h; exact ⟨h.cell 0, h.cell 1, h.cell 2, h.cell 3, h.cell 4, h.cell 5⟩
    have CB : Hid (∀ w1 w2, C w1 → Below w1.heap.size w1 w2 → C w2) := fun w1 w2 h k => by rw [hC] at h ⊢; exact h.below k h.lt
    have CS : Hid (∀ w1 w2, C w1 → w1.grownBy w2 (some g4) → C w2) := fun w1 w2 h k => by rw [hC] at h ⊢; exact h.kept k (by intro c; injection c with c; have := HF.out.l46; omega)
    have D0 : Hid (Below w4.heap.size w4 { w4 with drawn := w4.drawn + 1 }) := Below.drew (Below.refl _ _)
    have HF0 : Hid (Fr r ab cb L W { w4 with drawn := w4.drawn + 1 } g4 g6 [.int .i64 1, .int .i64 0, .int .i64 0, .string ⟨#[]⟩, .slice none 0 0, .slice none 0 0] j1 e1) := HF.out.below D0.out
    have C0 : Hid (C { w4 with drawn := w4.drawn + 1 }) := by rw [hC]; exact HF0.out.b6
    refine region_calm C 4 (by kernel_rfl) ?_
    clear D0 HF
    generalize ({ w4 with drawn := w4.drawn + 1 } : World) = v0 at *
    have hCp : ∀ p : Prop, (∀ W, C W → p) ↔ p := fun p => ⟨fun h => h _ C0.out, fun h _ _ => h⟩
    refine seg 3 [0, 1] rfl (by kernel_rfl) whole_blind C0.out (by kernel_rfl) ?_
    change wpQuiet _ _ _ _ (_ :: _ :: []) _
    repeat (first
      | go_big_quiet_skip
      | (go_big_quiet_want
         first
         | (refine q_val (.tmp 6) rfl g6 0 rfl ⟨1, 0, 0, ⟨#[]⟩, []⟩ none 0 none 0 0 CN.out ?_
            simp only [Act.put, List.setIfInBounds_toArray, List.set_cons_zero, List.set_cons_succ]
            go_big_quiet_on)
         | (go_big_quiet_op
            go_big_quiet_on)))
    refine wpQuiet_nil ?_
    refine lone_do (i := 2) 2 rfl (by kernel_rfl) rfl (by rfl) ?_
    intro K hK
    refine oper_call 92 #[.tmp 61] #[41] rfl #[.agg #[.int .i64 1, .int .i64 0, .int .i64 0, .string ⟨#[]⟩, .slice none 0 0, .slice none 0 0]] (by rw [List.map_toArray]; rfl) (enters Tryz.func92 (by kernel_rfl) rfl) (fun v' w' => v' = .int .i64 (chk0V (lf 1 0 0 ⟨#[]⟩)) ∧ Below v0.heap.size v0 w') ((vCheck_any (lf 1 0 0 ⟨#[]⟩) HWF.out none 0 none 0 v0 (vl_lf v0 1 0 0 ⟨#[]⟩).vl).mono fun e' w' ⟨h1, h2⟩ => ⟨_, h1, by rw [chk_lf], h2⟩) ?_
    rintro _ w5 ⟨rfl, hb5⟩
    have HF5 : Hid (Fr r ab cb L W w5 g4 g6 [.int .i64 1, .int .i64 0, .int .i64 0, .string ⟨#[]⟩, .slice none 0 0, .slice none 0 0] j1 e1) := HF0.out.below hb5
    have hc5 := CB.out _ _ C0.out hb5
    refine hK _ _ hc5 ?_
    simp only [Act.put, List.setIfInBounds_toArray, List.set_cons_zero, List.set_cons_succ]
    refine lone_do (i := 3) 1 rfl (by kernel_rfl) rfl (by rfl) ?_
    intro K hK
    refine oper_sta 41 (.tmp 4) (.tmp 60) rfl rfl g4 41 zer [.int .i64 1, .int .i64 0, .int .i64 0, .string ⟨#[]⟩, .slice none 0 0, .slice none 0 0] rfl rfl HF5.out.b4 rfl s25 (by simp [Value.oneCell']) ?_
    intro w6 b6 gr6
    have HB6 : Hid (Blk w6 g4 41 [.int .i64 1, .int .i64 0, .int .i64 0, .string ⟨#[]⟩, .slice none 0 0, .slice none 0 0]) := b6
    have HR6 : Hid (Ro r ab cb L.length W w6 j1 e1) := HF5.out.res b6 gr6
    have hc6 := CS.out _ _ hc5 gr6
    clear b6 gr6 hb5 HF5 HF0
    refine hK _ _ hc6 ?_
    simp only [Act.put, List.setIfInBounds_toArray, List.set_cons_zero, List.set_cons_succ]
    refine lone_calm (i := 4) 0 rfl (by kernel_rfl) rfl rfl hc6 ?_
    have hCq : ∀ p : Prop, (∀ W, C W → p) ↔ p := fun p => ⟨fun h => h _ hc6, fun h _ _ => h⟩
    go_big_quiet_want
    go_big_quiet_op
    go_big_quiet_on
    refine wpQuiet_nil ?_
    refine anyC_done (by kernel_rfl) ⟨rfl, ?_⟩
    clear hc6 hCq hCp hc5 C0 CN CB CS hC
    go_wp2
    refine bodyPost_ret (res_two rfl _ g4 41 _ _ rfl HB6.out Tryz.underlying41 rfl s25) rfl ?_
    exact ⟨(lf 1 0 0 ⟨#[]⟩), none, 0, none, 0, j1, e1, _, rfl, HR6.out, ⟨[], vl_lf w6 1 0 0 ⟨#[]⟩, by simp⟩, HWF.out, HST.out, fun _ => rfl⟩
  by_cases k2 : x = 2
  · subst k2
    have HF2 : Hid (Fr r ab cb L W w4 g4 g6 [.int .i64 2, .int .i64 0, .int .i64 0, .string ⟨#[]⟩, .slice none 0 0, .slice none 0 0] j1 e1) := HF.out
    clear HF
    go_wp2_with fail
    refine (truth_any w0 w4 r ab cb L j1 e1 HE4.out HF2.out.ro.blk HF2.out.ro.le).mono ?_
    rintro e w5 ⟨y, j2, e2, rfl, hy, _, H2⟩
    have HF5 : Hid (Fr r ab cb L W w5 g4 g6 [.int .i64 2, .int .i64 0, .int .i64 0, .string ⟨#[]⟩, .slice none 0 0, .slice none 0 0] j2 e2) := HF2.out.prim H2.out.1
    have HE5 : Hid (En w0 w5 r ab cb L) := HE4.out.ro H2.out.1
    have HS2 : Hid (St boR L j1 e1 j2 e2 y) := H2.out.2
    clear H2 HF2 c0
    go_wp2_with (refine st_one rfl 3 (.tmp 24) (.tmp 23) rfl g6 1 41 _ (.int .i64 (y : Int)) rfl rfl rfl rfl (by simp) HF5.out.b6 s3 ?_)
    intro w6 b6 gr6
    have HF : Hid (Fr r ab cb L W w6 g4 g6 [.int .i64 2, .int .i64 (y : Int), .int .i64 0, .string ⟨#[]⟩, .slice none 0 0, .slice none 0 0] j2 e2) := HF5.out.put b6 gr6
    clear b6 gr6 HF5
    have HWF0 : Hid (WfV (lf 2 (y : Int) 0 ⟨#[]⟩)) := wf_lf 2 (y : Int) 0 ⟨#[]⟩ (by omega) (by omega) (by omega) (by decide)
    have HST : Hid (St (rdV (d + 1)) L i err j2 e2 (lf 2 (y : Int) 0 ⟨#[]⟩)) := st_bind HS1.out (st_eq (fun l => (bo_eq l fun x => lf 2 x 0 em).symm) (st_map HS2.out fun x : Nat => lf 2 x 0 em))
    go_wp2
    have HWF : Hid (WfV (lf 2 (y : Int) 0 ⟨#[]⟩)) := HWF0.out
    clear HWF0
    obtain ⟨C, hC⟩ : ∃ C : World → Prop, C = fun w' => Blk w' g6 41 [.int .i64 2, .int .i64 (y : Int), .int .i64 0, .string ⟨#[]⟩, .slice none 0 0, .slice none 0 0] := ⟨_, rfl⟩
    have CN : Hid (∀ w', C w' → Nd w' g6 0 ⟨2, (y : Int), 0, ⟨#[]⟩, []⟩ none 0 none 0 0) := fun w' h => by rw [hC] at h; exact ⟨h.cell 0, h.cell 1, h.cell 2, h.cell 3, h.cell 4, h.cell 5⟩
    have CB : Hid (∀ w1 w2, C w1 → Below w1.heap.size w1 w2 → C w2) := fun w1 w2 h k => by rw [hC] at h ⊢; exact h.below k h.lt
    have CS : Hid (∀ w1 w2, C w1 → w1.grownBy w2 (some g4) → C w2) := fun w1 w2 h k => by rw [hC] at h ⊢; exact h.kept k (by intro c; injection c with c; have := HF.out.l46; omega)
    have D0 : Hid (Below w6.heap.size w6 { w6 with drawn := w6.drawn + 1 }) := Below.drew (Below.refl _ _)
    have HF0 : Hid (Fr r ab cb L W { w6 with drawn := w6.drawn + 1 } g4 g6 [.int .i64 2, .int .i64 (y : Int), .int .i64 0, .string ⟨#[]⟩, .slice none 0 0, .slice none 0 0] j2 e2) := HF.out.below D0.out
    have C0 : Hid (C { w6 with drawn := w6.drawn + 1 }) := by rw [hC]; exact HF0.out.b6
    refine region_calm C 4 (by kernel_rfl) ?_
    clear D0 HF
    generalize ({ w6 with drawn := w6.drawn + 1 } : World) = v0 at *
    have hCp : ∀ p : Prop, (∀ W, C W → p) ↔ p := fun p => ⟨fun h => h _ C0.out, fun h _ _ => h⟩
    refine seg 3 [0, 1] rfl (by kernel_rfl) whole_blind C0.out (by kernel_rfl) ?_
    change wpQuiet _ _ _ _ (_ :: _ :: []) _
    repeat (first
      | go_big_quiet_skip
      | (go_big_quiet_want
         first
         | (refine q_val (.tmp 6) rfl g6 0 rfl ⟨2, (y : Int), 0, ⟨#[]⟩, []⟩ none 0 none 0 0 CN.out ?_
            simp only [Act.put, List.setIfInBounds_toArray, List.set_cons_zero, List.set_cons_succ]
            go_big_quiet_on)
         | (go_big_quiet_op
            go_big_quiet_on)))
    refine wpQuiet_nil ?_
    refine lone_do (i := 2) 2 rfl (by kernel_rfl) rfl (by rfl) ?_
    intro K hK
    refine oper_call 92 #[.tmp 61] #[41] rfl #[.agg #[.int .i64 2, .int .i64 (y : Int), .int .i64 0, .string ⟨#[]⟩, .slice none 0 0, .slice none 0 0]] (by rw [List.map_toArray]; rfl) (enters Tryz.func92 (by kernel_rfl) rfl) (fun v' w' => v' = .int .i64 (chk0V (lf 2 (y : Int) 0 ⟨#[]⟩)) ∧ Below v0.heap.size v0 w') ((vCheck_any (lf 2 (y : Int) 0 ⟨#[]⟩) HWF.out none 0 none 0 v0 (vl_lf v0 2 (y : Int) 0 ⟨#[]⟩).vl).mono fun e' w' ⟨h1, h2⟩ => ⟨_, h1, by rw [chk_lf], h2⟩) ?_
    rintro _ w5 ⟨rfl, hb5⟩
    have HF5 : Hid (Fr r ab cb L W w5 g4 g6 [.int .i64 2, .int .i64 (y : Int), .int .i64 0, .string ⟨#[]⟩, .slice none 0 0, .slice none 0 0] j2 e2) := HF0.out.below hb5
    have hc5 := CB.out _ _ C0.out hb5
    refine hK _ _ hc5 ?_
    simp only [Act.put, List.setIfInBounds_toArray, List.set_cons_zero, List.set_cons_succ]
    refine lone_do (i := 3) 1 rfl (by kernel_rfl) rfl (by rfl) ?_
    intro K hK
    refine oper_sta 41 (.tmp 4) (.tmp 60) rfl rfl g4 41 zer [.int .i64 2, .int .i64 (y : Int), .int .i64 0, .string ⟨#[]⟩, .slice none 0 0, .slice none 0 0] rfl rfl HF5.out.b4 rfl s25 (by simp [Value.oneCell']) ?_
    intro w6 b6 gr6
    have HB6 : Hid (Blk w6 g4 41 [.int .i64 2, .int .i64 (y : Int), .int .i64 0, .string ⟨#[]⟩, .slice none 0 0, .slice none 0 0]) := b6
    have HR6 : Hid (Ro r ab cb L.length W w6 j2 e2) := HF5.out.res b6 gr6
    have hc6 := CS.out _ _ hc5 gr6
    clear b6 gr6 hb5 HF5 HF0
    refine hK _ _ hc6 ?_
    simp only [Act.put, List.setIfInBounds_toArray, List.set_cons_zero, List.set_cons_succ]
    refine lone_calm (i := 4) 0 rfl (by kernel_rfl) rfl rfl hc6 ?_
    have hCq : ∀ p : Prop, (∀ W, C W → p) ↔ p := fun p => ⟨fun h => h _ hc6, fun h _ _ => h⟩
    go_big_quiet_want
    go_big_quiet_op
    go_big_quiet_on
    refine wpQuiet_nil ?_
    refine anyC_done (by kernel_rfl) ⟨rfl, ?_⟩
    clear hc6 hCq hCp hc5 C0 CN CB CS hC
    go_wp2
    refine bodyPost_ret (res_two rfl _ g4 41 _ _ rfl HB6.out Tryz.underlying41 rfl s25) rfl ?_
    exact ⟨(lf 2 (y : Int) 0 ⟨#[]⟩), none, 0, none, 0, j2, e2, _, rfl, HR6.out, ⟨[], vl_lf w6 2 (y : Int) 0 ⟨#[]⟩, by simp⟩, HWF.out, HST.out, fun _ => rfl⟩
  by_cases k3 : x = 3
  · subst k3
    have HF2 : Hid (Fr r ab cb L W w4 g4 g6 [.int .i64 3, .int .i64 0, .int .i64 0, .string ⟨#[]⟩, .slice none 0 0, .slice none 0 0] j1 e1) := HF.out
    clear HF
    go_wp2_with fail
    refine (signed_any w0 w4 r ab cb L j1 e1 HE4.out HF2.out.ro.blk HF2.out.ro.le HP.out).mono ?_
    rintro e w5 ⟨u, j2, e2, rfl, hu, _, H2⟩
    have HF5 : Hid (Fr r ab cb L W w5 g4 g6 [.int .i64 3, .int .i64 0, .int .i64 0, .string ⟨#[]⟩, .slice none 0 0, .slice none 0 0] j2 e2) := HF2.out.prim H2.out.1
    have HE5 : Hid (En w0 w5 r ab cb L) := HE4.out.ro H2.out.1
    have HS2 : Hid (St uvR L j1 e1 j2 e2 u) := H2.out.2
    clear H2 HF2 c0
    go_wp2_with (refine st_one rfl 3 (.tmp 29) (.tmp 28) rfl g6 1 41 _ (.int .i64 (zagS (u : Int))) rfl rfl rfl rfl (by simp) HF5.out.b6 s3 ?_)
    intro w6 b6 gr6
    have HF : Hid (Fr r ab cb L W w6 g4 g6 [.int .i64 3, .int .i64 (zagS (u : Int)), .int .i64 0, .string ⟨#[]⟩, .slice none 0 0, .slice none 0 0] j2 e2) := HF5.out.put b6 gr6
    clear b6 gr6 HF5
    have HWF0 : Hid (WfV (lf 3 (zagS (u : Int)) 0 ⟨#[]⟩)) := wf_lf 3 (zagS (u : Int)) 0 ⟨#[]⟩ (by omega) ⟨(zag_nat hu).1, (zag_nat hu).2.1⟩ (by omega) (by decide)
    have HST : Hid (St (rdV (d + 1)) L i err j2 e2 (lf 3 (zagS (u : Int)) 0 ⟨#[]⟩)) := st_bind HS1.out (st_map HS2.out fun u : Nat => lf 3 (zagS u) 0 em)
    go_wp2
    have HWF : Hid (WfV (lf 3 (zagS (u : Int)) 0 ⟨#[]⟩)) := HWF0.out
    clear HWF0
    obtain ⟨C, hC⟩ : ∃ C : World → Prop, C = fun w' => Blk w' g6 41 [.int .i64 3, .int .i64 (zagS (u : Int)), .int .i64 0, .string ⟨#[]⟩, .slice none 0 0, .slice none 0 0] := ⟨_, rfl⟩
    have CN : Hid (∀ w', C w' → Nd w' g6 0 ⟨3, (zagS (u : Int)), 0, ⟨#[]⟩, []⟩ none 0 none 0 0) := fun w' h => by rw [hC] at h; exact ⟨h.cell 0, h.cell 1, h.cell 2, h.cell 3, h.cell 4, h.cell 5⟩
    have CB : Hid (∀ w1 w2, C w1 → Below w1.heap.size w1 w2 → C w2) := fun w1 w2 h k => by rw [hC] at h ⊢; exact h.below k h.lt
    have CS : Hid (∀ w1 w2, C w1 → w1.grownBy w2 (some g4) → C w2) := fun w1 w2 h k => by rw [hC] at h ⊢; exact h.kept k (by intro c; injection c with c; have := HF.out.l46; omega)
    have D0 : Hid (Below w6.heap.size w6 { w6 with drawn := w6.drawn + 1 }) := Below.drew (Below.refl _ _)
    have HF0 : Hid (Fr r ab cb L W { w6 with drawn := w6.drawn + 1 } g4 g6 [.int .i64 3, .int .i64 (zagS (u : Int)), .int .i64 0, .string ⟨#[]⟩, .slice none 0 0, .slice none 0 0] j2 e2) := HF.out.below D0.out
    have C0 : Hid (C { w6 with drawn := w6.drawn + 1 }) := by rw [hC]; exact HF0.out.b6
    refine region_calm C 4 (by kernel_rfl) ?_
    clear D0 HF
    generalize ({ w6 with drawn := w6.drawn + 1 } : World) = v0 at *
    have hCp : ∀ p : Prop, (∀ W, C W → p) ↔ p := fun p => ⟨fun h => h _ C0.out, fun h _ _ => h⟩
    refine seg 3 [0, 1] rfl (by kernel_rfl) whole_blind C0.out (by kernel_rfl) ?_
    change wpQuiet _ _ _ _ (_ :: _ :: []) _
    repeat (first
      | go_big_quiet_skip
      | (go_big_quiet_want
         first
         | (refine q_val (.tmp 6) rfl g6 0 rfl ⟨3, (zagS (u : Int)), 0, ⟨#[]⟩, []⟩ none 0 none 0 0 CN.out ?_
            simp only [Act.put, List.setIfInBounds_toArray, List.set_cons_zero, List.set_cons_succ]
            go_big_quiet_on)
         | (go_big_quiet_op
            go_big_quiet_on)))
    refine wpQuiet_nil ?_
    refine lone_do (i := 2) 2 rfl (by kernel_rfl) rfl (by rfl) ?_
    intro K hK
    refine oper_call 92 #[.tmp 61] #[41] rfl #[.agg #[.int .i64 3, .int .i64 (zagS (u : Int)), .int .i64 0, .string ⟨#[]⟩, .slice none 0 0, .slice none 0 0]] (by rw [List.map_toArray]; rfl) (enters Tryz.func92 (by kernel_rfl) rfl) (fun v' w' => v' = .int .i64 (chk0V (lf 3 (zagS (u : Int)) 0 ⟨#[]⟩)) ∧ Below v0.heap.size v0 w') ((vCheck_any (lf 3 (zagS (u : Int)) 0 ⟨#[]⟩) HWF.out none 0 none 0 v0 (vl_lf v0 3 (zagS (u : Int)) 0 ⟨#[]⟩).vl).mono fun e' w' ⟨h1, h2⟩ => ⟨_, h1, by rw [chk_lf], h2⟩) ?_
    rintro _ w5 ⟨rfl, hb5⟩
    have HF5 : Hid (Fr r ab cb L W w5 g4 g6 [.int .i64 3, .int .i64 (zagS (u : Int)), .int .i64 0, .string ⟨#[]⟩, .slice none 0 0, .slice none 0 0] j2 e2) := HF0.out.below hb5
    have hc5 := CB.out _ _ C0.out hb5
    refine hK _ _ hc5 ?_
    simp only [Act.put, List.setIfInBounds_toArray, List.set_cons_zero, List.set_cons_succ]
    refine lone_do (i := 3) 1 rfl (by kernel_rfl) rfl (by rfl) ?_
    intro K hK
    refine oper_sta 41 (.tmp 4) (.tmp 60) rfl rfl g4 41 zer [.int .i64 3, .int .i64 (zagS (u : Int)), .int .i64 0, .string ⟨#[]⟩, .slice none 0 0, .slice none 0 0] rfl rfl HF5.out.b4 rfl s25 (by simp [Value.oneCell']) ?_
    intro w6 b6 gr6
    have HB6 : Hid (Blk w6 g4 41 [.int .i64 3, .int .i64 (zagS (u : Int)), .int .i64 0, .string ⟨#[]⟩, .slice none 0 0, .slice none 0 0]) := b6
    have HR6 : Hid (Ro r ab cb L.length W w6 j2 e2) := HF5.out.res b6 gr6
    have hc6 := CS.out _ _ hc5 gr6
    clear b6 gr6 hb5 HF5 HF0
    refine hK _ _ hc6 ?_
    simp only [Act.put, List.setIfInBounds_toArray, List.set_cons_zero, List.set_cons_succ]
    refine lone_calm (i := 4) 0 rfl (by kernel_rfl) rfl rfl hc6 ?_
    have hCq : ∀ p : Prop, (∀ W, C W → p) ↔ p := fun p => ⟨fun h => h _ hc6, fun h _ _ => h⟩
    go_big_quiet_want
    go_big_quiet_op
    go_big_quiet_on
    refine wpQuiet_nil ?_
    refine anyC_done (by kernel_rfl) ⟨rfl, ?_⟩
    clear hc6 hCq hCp hc5 C0 CN CB CS hC
    go_wp2
    refine bodyPost_ret (res_two rfl _ g4 41 _ _ rfl HB6.out Tryz.underlying41 rfl s25) rfl ?_
    exact ⟨(lf 3 (zagS (u : Int)) 0 ⟨#[]⟩), none, 0, none, 0, j2, e2, _, rfl, HR6.out, ⟨[], vl_lf w6 3 (zagS (u : Int)) 0 ⟨#[]⟩, by simp⟩, HWF.out, HST.out, fun _ => rfl⟩
  by_cases k4 : x = 4
  · subst k4
    have HF2 : Hid (Fr r ab cb L W w4 g4 g6 [.int .i64 4, .int .i64 0, .int .i64 0, .string ⟨#[]⟩, .slice none 0 0, .slice none 0 0] j1 e1) := HF.out
    clear HF
    go_wp2_with fail
    refine (signed_any w0 w4 r ab cb L j1 e1 HE4.out HF2.out.ro.blk HF2.out.ro.le HP.out).mono ?_
    rintro e w5 ⟨u, j2, e2, rfl, hu, _, H2⟩
    have HF5 : Hid (Fr r ab cb L W w5 g4 g6 [.int .i64 4, .int .i64 0, .int .i64 0, .string ⟨#[]⟩, .slice none 0 0, .slice none 0 0] j2 e2) := HF2.out.prim H2.out.1
    have HE5 : Hid (En w0 w5 r ab cb L) := HE4.out.ro H2.out.1
    have HS2 : Hid (St uvR L j1 e1 j2 e2 u) := H2.out.2
    clear H2 HF2 c0
    go_wp2_with (refine st_one rfl 3 (.tmp 34) (.tmp 33) rfl g6 1 41 _ (.int .i64 (zagS (u : Int))) rfl rfl rfl rfl (by simp) HF5.out.b6 s3 ?_)
    intro w6 b6 gr6
    have HF : Hid (Fr r ab cb L W w6 g4 g6 [.int .i64 4, .int .i64 (zagS (u : Int)), .int .i64 0, .string ⟨#[]⟩, .slice none 0 0, .slice none 0 0] j2 e2) := HF5.out.put b6 gr6
    clear b6 gr6 HF5
    have c0 : w6.cell? ⟨g6, 0, none⟩ = some (.int .i64 4) := HF.out.b6.cell 0
    have HP2 : Hid (e2 = 0 → 0 < L.length) := fun h => HP.out (by
      rcases HS2.out with ⟨a, _, c⟩ | ⟨a, _⟩
      · exact absurd (c ▸ h) a
      · exact a)
    have HE6 : Hid (En w0 w6 r ab cb L) := HE5.out.fr HF.out HBW.out
    go_wp2_with fail
    refine (next_any w0 w6 r ab cb L j2 e2 HE6.out HF.out.ro.blk HF.out.ro.le).mono ?_
    rintro e w7 ⟨y, j3, e3, rfl, hy, _, H3⟩
    have HF7 : Hid (Fr r ab cb L W w7 g4 g6 [.int .i64 4, .int .i64 (zagS (u : Int)), .int .i64 0, .string ⟨#[]⟩, .slice none 0 0, .slice none 0 0] j3 e3) := HF.out.prim H3.out.1
    have HS3 : Hid (St byR L j2 e2 j3 e3 y) := H3.out.2
    clear H3 HF c0
    go_wp2_with (refine st_one rfl 3 (.tmp 37) (.tmp 36) rfl g6 2 41 _ (.int .i64 (y : Int)) rfl rfl rfl rfl (by simp) HF7.out.b6 s3 ?_)
    intro w8 b8 gr8
    have HF : Hid (Fr r ab cb L W w8 g4 g6 [.int .i64 4, .int .i64 (zagS (u : Int)), .int .i64 (y : Int), .string ⟨#[]⟩, .slice none 0 0, .slice none 0 0] j3 e3) := HF7.out.put b8 gr8
    clear b8 gr8 HF7
    have HWF0 : Hid (WfV (lf 4 (zagS (u : Int)) (y : Int) ⟨#[]⟩)) := wf_lf 4 (zagS (u : Int)) (y : Int) ⟨#[]⟩ (by omega) ⟨(zag_nat hu).1, (zag_nat hu).2.1⟩ (by omega) (by decide)
    have HST : Hid (St (rdV (d + 1)) L i err j3 e3 (lf 4 (zagS (u : Int)) (y : Int) ⟨#[]⟩)) := st_bind HS1.out (st_bind (g := fun u : Nat => byR.bind fun x : Nat => .ret (lf 4 (zagS u) x em)) HS2.out (st_map HS3.out fun x : Nat => lf 4 (zagS (u : Int)) x em))
    go_wp2
    have HWF : Hid (WfV (lf 4 (zagS (u : Int)) (y : Int) ⟨#[]⟩)) := HWF0.out
    clear HWF0
    obtain ⟨C, hC⟩ : ∃ C : World → Prop, C = fun w' => Blk w' g6 41 [.int .i64 4, .int .i64 (zagS (u : Int)), .int .i64 (y : Int), .string ⟨#[]⟩, .slice none 0 0, .slice none 0 0] := ⟨_, rfl⟩
    have CN : Hid (∀ w', C w' → Nd w' g6 0 ⟨4, (zagS (u : Int)), (y : Int), ⟨#[]⟩, []⟩ none 0 none 0 0) := fun w' h => by rw [hC] at h; exact ⟨h.cell 0, h.cell 1, h.cell 2, h.cell 3, h.cell 4, h.cell 5⟩
    have CB : Hid (∀ w1 w2, C w1 → Below w1.heap.size w1 w2 → C w2) := fun w1 w2 h k => by rw [hC] at h ⊢; exact h.below k h.lt
    have CS : Hid (∀ w1 w2, C w1 → w1.grownBy w2 (some g4) → C w2) := fun w1 w2 h k => by rw [hC] at h ⊢; exact h.kept k (by intro c; injection c with c; have := HF.out.l46; omega)
    have D0 : Hid (Below w8.heap.size w8 { w8 with drawn := w8.drawn + 1 }) := Below.drew (Below.refl _ _)
    have HF0 : Hid (Fr r ab cb L W { w8 with drawn := w8.drawn + 1 } g4 g6 [.int .i64 4, .int .i64 (zagS (u : Int)), .int .i64 (y : Int), .string ⟨#[]⟩, .slice none 0 0, .slice none 0 0] j3 e3) := HF.out.below D0.out
    have C0 : Hid (C { w8 with drawn := w8.drawn + 1 }) := by rw [hC]; exact HF0.out.b6
    refine region_calm C 4 (by kernel_rfl) ?_
    clear D0 HF
    generalize ({ w8 with drawn := w8.drawn + 1 } : World) = v0 at *
    have hCp : ∀ p : Prop, (∀ W, C W → p) ↔ p := fun p => ⟨fun h => h _ C0.out, fun h _ _ => h⟩
    refine seg 3 [0, 1] rfl (by kernel_rfl) whole_blind C0.out (by kernel_rfl) ?_
    change wpQuiet _ _ _ _ (_ :: _ :: []) _
    repeat (first
      | go_big_quiet_skip
      | (go_big_quiet_want
         first
         | (refine q_val (.tmp 6) rfl g6 0 rfl ⟨4, (zagS (u : Int)), (y : Int), ⟨#[]⟩, []⟩ none 0 none 0 0 CN.out ?_
            simp only [Act.put, List.setIfInBounds_toArray, List.set_cons_zero, List.set_cons_succ]
            go_big_quiet_on)
         | (go_big_quiet_op
            go_big_quiet_on)))
    refine wpQuiet_nil ?_
    refine lone_do (i := 2) 2 rfl (by kernel_rfl) rfl (by rfl) ?_
    intro K hK
    refine oper_call 92 #[.tmp 61] #[41] rfl #[.agg #[.int .i64 4, .int .i64 (zagS (u : Int)), .int .i64 (y : Int), .string ⟨#[]⟩, .slice none 0 0, .slice none 0 0]] (by rw [List.map_toArray]; rfl) (enters Tryz.func92 (by kernel_rfl) rfl) (fun v' w' => v' = .int .i64 (chk0V (lf 4 (zagS (u : Int)) (y : Int) ⟨#[]⟩)) ∧ Below v0.heap.size v0 w') ((vCheck_any (lf 4 (zagS (u : Int)) (y : Int) ⟨#[]⟩) HWF.out none 0 none 0 v0 (vl_lf v0 4 (zagS (u : Int)) (y : Int) ⟨#[]⟩).vl).mono fun e' w' ⟨h1, h2⟩ => ⟨_, h1, by rw [chk_lf], h2⟩) ?_
    rintro _ w5 ⟨rfl, hb5⟩
    have HF5 : Hid (Fr r ab cb L W w5 g4 g6 [.int .i64 4, .int .i64 (zagS (u : Int)), .int .i64 (y : Int), .string ⟨#[]⟩, .slice none 0 0, .slice none 0 0] j3 e3) := HF0.out.below hb5
    have hc5 := CB.out _ _ C0.out hb5
    refine hK _ _ hc5 ?_
    simp only [Act.put, List.setIfInBounds_toArray, List.set_cons_zero, List.set_cons_succ]
    refine lone_do (i := 3) 1 rfl (by kernel_rfl) rfl (by rfl) ?_
    intro K hK
    refine oper_sta 41 (.tmp 4) (.tmp 60) rfl rfl g4 41 zer [.int .i64 4, .int .i64 (zagS (u : Int)), .int .i64 (y : Int), .string ⟨#[]⟩, .slice none 0 0, .slice none 0 0] rfl rfl HF5.out.b4 rfl s25 (by simp [Value.oneCell']) ?_
    intro w6 b6 gr6
    have HB6 : Hid (Blk w6 g4 41 [.int .i64 4, .int .i64 (zagS (u : Int)), .int .i64 (y : Int), .string ⟨#[]⟩, .slice none 0 0, .slice none 0 0]) := b6
    have HR6 : Hid (Ro r ab cb L.length W w6 j3 e3) := HF5.out.res b6 gr6
    have hc6 := CS.out _ _ hc5 gr6
    clear b6 gr6 hb5 HF5 HF0
    refine hK _ _ hc6 ?_
    simp only [Act.put, List.setIfInBounds_toArray, List.set_cons_zero, List.set_cons_succ]
    refine lone_calm (i := 4) 0 rfl (by kernel_rfl) rfl rfl hc6 ?_
    have hCq : ∀ p : Prop, (∀ W, C W → p) ↔ p := fun p => ⟨fun h => h _ hc6, fun h _ _ => h⟩
    go_big_quiet_want
    go_big_quiet_op
    go_big_quiet_on
    refine wpQuiet_nil ?_
    refine anyC_done (by kernel_rfl) ⟨rfl, ?_⟩
    clear hc6 hCq hCp hc5 C0 CN CB CS hC
    go_wp2
    refine bodyPost_ret (res_two rfl _ g4 41 _ _ rfl HB6.out Tryz.underlying41 rfl s25) rfl ?_
    exact ⟨(lf 4 (zagS (u : Int)) (y : Int) ⟨#[]⟩), none, 0, none, 0, j3, e3, _, rfl, HR6.out, ⟨[], vl_lf w6 4 (zagS (u : Int)) (y : Int) ⟨#[]⟩, by simp⟩, HWF.out, HST.out, fun _ => rfl⟩
  by_cases k5 : x = 5
  · subst k5
    have HF2 : Hid (Fr r ab cb L W w4 g4 g6 [.int .i64 5, .int .i64 0, .int .i64 0, .string ⟨#[]⟩, .slice none 0 0, .slice none 0 0] j1 e1) := HF.out
    clear HF
    go_wp2_with fail
    refine (uvarint_any w0 w4 r ab cb L j1 e1 HE4.out HF2.out.ro.blk HF2.out.ro.le HP.out).mono ?_
    rintro e w5 ⟨u, j2, e2, rfl, hu, _, H2⟩
    have HWR : Hid (wrap64 (u : Int) = wr64 u) := wr_conv u hu
    have HF5 : Hid (Fr r ab cb L W w5 g4 g6 [.int .i64 5, .int .i64 0, .int .i64 0, .string ⟨#[]⟩, .slice none 0 0, .slice none 0 0] j2 e2) := HF2.out.prim H2.out.1
    have HE5 : Hid (En w0 w5 r ab cb L) := HE4.out.ro H2.out.1
    have HS2 : Hid (St uvR L j1 e1 j2 e2 u) := H2.out.2
    clear H2 HF2 c0
    go_wp2_with (refine st_one rfl 3 (.tmp 43) (.tmp 42) rfl g6 1 41 _ (.int .i64 (wrap64 (u : Int))) rfl rfl rfl rfl (by simp) HF5.out.b6 s3 ?_)
    intro w6 b6 gr6
    replace b6 : Blk w6 g6 41 [.int .i64 5, .int .i64 (wrap64 (u : Int)), .int .i64 0, .string ⟨#[]⟩, .slice none 0 0, .slice none 0 0] := b6
    rw [HWR.out] at b6
    have HF : Hid (Fr r ab cb L W w6 g4 g6 [.int .i64 5, .int .i64 (wr64 u), .int .i64 0, .string ⟨#[]⟩, .slice none 0 0, .slice none 0 0] j2 e2) := HF5.out.put b6 gr6
    clear b6 gr6 HF5
    have HWF0 : Hid (WfV (lf 5 (wr64 u) 0 ⟨#[]⟩)) := wf_lf 5 (wr64 u) 0 ⟨#[]⟩ (by omega) (wr_bd hu) (by omega) (by decide)
    have HST : Hid (St (rdV (d + 1)) L i err j2 e2 (lf 5 (wr64 u) 0 ⟨#[]⟩)) := st_bind HS1.out (st_map HS2.out fun u : Nat => lf 5 (wr64 u) 0 em)
    go_wp2
    have HWF : Hid (WfV (lf 5 (wr64 u) 0 ⟨#[]⟩)) := HWF0.out
    clear HWF0
    obtain ⟨C, hC⟩ : ∃ C : World → Prop, C = fun w' => Blk w' g6 41 [.int .i64 5, .int .i64 (wr64 u), .int .i64 0, .string ⟨#[]⟩, .slice none 0 0, .slice none 0 0] := ⟨_, rfl⟩
    have CN : Hid (∀ w', C w' → Nd w' g6 0 ⟨5, (wr64 u), 0, ⟨#[]⟩, []⟩ none 0 none 0 0) := fun w' h => by rw [hC] at h; exact ⟨h.cell 0, h.cell 1, h.cell 2, h.cell 3, h.cell 4, h.cell 5⟩
    have CB : Hid (∀ w1 w2, C w1 → Below w1.heap.size w1 w2 → C w2) := fun w1 w2 h k => by rw [hC] at h ⊢; exact h.below k h.lt
    have CS : Hid (∀ w1 w2, C w1 → w1.grownBy w2 (some g4) → C w2) := fun w1 w2 h k => by rw [hC] at h ⊢; exact h.kept k (by intro c; injection c with c; have := HF.out.l46; omega)
    have D0 : Hid (Below w6.heap.size w6 { w6 with drawn := w6.drawn + 1 }) := Below.drew (Below.refl _ _)
    have HF0 : Hid (Fr r ab cb L W { w6 with drawn := w6.drawn + 1 } g4 g6 [.int .i64 5, .int .i64 (wr64 u), .int .i64 0, .string ⟨#[]⟩, .slice none 0 0, .slice none 0 0] j2 e2) := HF.out.below D0.out
    have C0 : Hid (C { w6 with drawn := w6.drawn + 1 }) := by rw [hC]; exact HF0.out.b6
    refine region_calm C 4 (by kernel_rfl) ?_
    clear D0 HF
    generalize ({ w6 with drawn := w6.drawn + 1 } : World) = v0 at *
    have hCp : ∀ p : Prop, (∀ W, C W → p) ↔ p := fun p => ⟨fun h => h _ C0.out, fun h _ _ => h⟩
    refine seg 3 [0, 1] rfl (by kernel_rfl) whole_blind C0.out (by kernel_rfl) ?_
    change wpQuiet _ _ _ _ (_ :: _ :: []) _
    repeat (first
      | go_big_quiet_skip
      | (go_big_quiet_want
         first
         | (refine q_val (.tmp 6) rfl g6 0 rfl ⟨5, (wr64 u), 0, ⟨#[]⟩, []⟩ none 0 none 0 0 CN.out ?_
            simp only [Act.put, List.setIfInBounds_toArray, List.set_cons_zero, List.set_cons_succ]
            go_big_quiet_on)
         | (go_big_quiet_op
            go_big_quiet_on)))
    refine wpQuiet_nil ?_
    refine lone_do (i := 2) 2 rfl (by kernel_rfl) rfl (by rfl) ?_
    intro K hK
    refine oper_call 92 #[.tmp 61] #[41] rfl #[.agg #[.int .i64 5, .int .i64 (wr64 u), .int .i64 0, .string ⟨#[]⟩, .slice none 0 0, .slice none 0 0]] (by rw [List.map_toArray]; rfl) (enters Tryz.func92 (by kernel_rfl) rfl) (fun v' w' => v' = .int .i64 (chk0V (lf 5 (wr64 u) 0 ⟨#[]⟩)) ∧ Below v0.heap.size v0 w') ((vCheck_any (lf 5 (wr64 u) 0 ⟨#[]⟩) HWF.out none 0 none 0 v0 (vl_lf v0 5 (wr64 u) 0 ⟨#[]⟩).vl).mono fun e' w' ⟨h1, h2⟩ => ⟨_, h1, by rw [chk_lf], h2⟩) ?_
    rintro _ w5 ⟨rfl, hb5⟩
    have HF5 : Hid (Fr r ab cb L W w5 g4 g6 [.int .i64 5, .int .i64 (wr64 u), .int .i64 0, .string ⟨#[]⟩, .slice none 0 0, .slice none 0 0] j2 e2) := HF0.out.below hb5
    have hc5 := CB.out _ _ C0.out hb5
    refine hK _ _ hc5 ?_
    simp only [Act.put, List.setIfInBounds_toArray, List.set_cons_zero, List.set_cons_succ]
    refine lone_do (i := 3) 1 rfl (by kernel_rfl) rfl (by rfl) ?_
    intro K hK
    refine oper_sta 41 (.tmp 4) (.tmp 60) rfl rfl g4 41 zer [.int .i64 5, .int .i64 (wr64 u), .int .i64 0, .string ⟨#[]⟩, .slice none 0 0, .slice none 0 0] rfl rfl HF5.out.b4 rfl s25 (by simp [Value.oneCell']) ?_
    intro w6 b6 gr6
    have HB6 : Hid (Blk w6 g4 41 [.int .i64 5, .int .i64 (wr64 u), .int .i64 0, .string ⟨#[]⟩, .slice none 0 0, .slice none 0 0]) := b6
    have HR6 : Hid (Ro r ab cb L.length W w6 j2 e2) := HF5.out.res b6 gr6
    have hc6 := CS.out _ _ hc5 gr6
    clear b6 gr6 hb5 HF5 HF0
    refine hK _ _ hc6 ?_
    simp only [Act.put, List.setIfInBounds_toArray, List.set_cons_zero, List.set_cons_succ]
    refine lone_calm (i := 4) 0 rfl (by kernel_rfl) rfl rfl hc6 ?_
    have hCq : ∀ p : Prop, (∀ W, C W → p) ↔ p := fun p => ⟨fun h => h _ hc6, fun h _ _ => h⟩
    go_big_quiet_want
    go_big_quiet_op
    go_big_quiet_on
    refine wpQuiet_nil ?_
    refine anyC_done (by kernel_rfl) ⟨rfl, ?_⟩
    clear hc6 hCq hCp hc5 C0 CN CB CS hC
    go_wp2
    refine bodyPost_ret (res_two rfl _ g4 41 _ _ rfl HB6.out Tryz.underlying41 rfl s25) rfl ?_
    exact ⟨(lf 5 (wr64 u) 0 ⟨#[]⟩), none, 0, none, 0, j2, e2, _, rfl, HR6.out, ⟨[], vl_lf w6 5 (wr64 u) 0 ⟨#[]⟩, by simp⟩, HWF.out, HST.out, fun _ => rfl⟩
  by_cases k6 : x = 6
  · subst k6
    have HF2 : Hid (Fr r ab cb L W w4 g4 g6 [.int .i64 6, .int .i64 0, .int .i64 0, .string ⟨#[]⟩, .slice none 0 0, .slice none 0 0] j1 e1) := HF.out
    clear HF
    go_wp2_with fail
    refine (text_any w0 w4 r ab cb L j1 e1 HE4.out HF2.out.ro.blk HF2.out.ro.le HP.out).mono ?_
    rintro e w5 ⟨s, j2, e2, rfl, hs, _, H2⟩
    have HF5 : Hid (Fr r ab cb L W w5 g4 g6 [.int .i64 6, .int .i64 0, .int .i64 0, .string ⟨#[]⟩, .slice none 0 0, .slice none 0 0] j2 e2) := HF2.out.prim H2.out.1
    have HE5 : Hid (En w0 w5 r ab cb L) := HE4.out.ro H2.out.1
    have HS2 : Hid (St txR L j1 e1 j2 e2 s) := H2.out.2
    clear H2 HF2 c0
    go_wp2_with (refine st_one rfl 9 (.tmp 49) (.tmp 48) rfl g6 3 41 _ (.string s) rfl rfl rfl rfl (by simp) HF5.out.b6 s9 ?_)
    intro w6 b6 gr6
    have HF : Hid (Fr r ab cb L W w6 g4 g6 [.int .i64 6, .int .i64 0, .int .i64 0, .string s, .slice none 0 0, .slice none 0 0] j2 e2) := HF5.out.put b6 gr6
    clear b6 gr6 HF5
    have HWF0 : Hid (WfV (lf 6 0 0 s)) := wf_lf 6 0 0 s (by omega) (by omega) (by omega) hs
    have HST : Hid (St (rdV (d + 1)) L i err j2 e2 (lf 6 0 0 s)) := st_bind HS1.out (st_map HS2.out fun t => lf 6 0 0 t)
    go_wp2
    have HWF : Hid (WfV (lf 6 0 0 s)) := HWF0.out
    clear HWF0
    obtain ⟨C, hC⟩ : ∃ C : World → Prop, C = fun w' => Blk w' g6 41 [.int .i64 6, .int .i64 0, .int .i64 0, .string s, .slice none 0 0, .slice none 0 0] := ⟨_, rfl⟩
    have CN : Hid (∀ w', C w' → Nd w' g6 0 ⟨6, 0, 0, s, []⟩ none 0 none 0 0) := fun w' h => by rw [hC] at h; exact ⟨h.cell 0, h.cell 1, h.cell 2, h.cell 3, h.cell 4, h.cell 5⟩
    have CB : Hid (∀ w1 w2, C w1 → Below w1.heap.size w1 w2 → C w2) := fun w1 w2 h k => by rw [hC] at h ⊢; exact h.below k h.lt
    have CS : Hid (∀ w1 w2, C w1 → w1.grownBy w2 (some g4) → C w2) := fun w1 w2 h k => by rw [hC] at h ⊢; exact h.kept k (by intro c; injection c with c; have := HF.out.l46; omega)
    have D0 : Hid (Below w6.heap.size w6 { w6 with drawn := w6.drawn + 1 }) := Below.drew (Below.refl _ _)
    have HF0 : Hid (Fr r ab cb L W { w6 with drawn := w6.drawn + 1 } g4 g6 [.int .i64 6, .int .i64 0, .int .i64 0, .string s, .slice none 0 0, .slice none 0 0] j2 e2) := HF.out.below D0.out
    have C0 : Hid (C { w6 with drawn := w6.drawn + 1 }) := by rw [hC]; exact HF0.out.b6
    refine region_calm C 4 (by kernel_rfl) ?_
    clear D0 HF
    generalize ({ w6 with drawn := w6.drawn + 1 } : World) = v0 at *
    have hCp : ∀ p : Prop, (∀ W, C W → p) ↔ p := fun p => ⟨fun h => h _ C0.out, fun h _ _ => h⟩
    refine seg 3 [0, 1] rfl (by kernel_rfl) whole_blind C0.out (by kernel_rfl) ?_
    change wpQuiet _ _ _ _ (_ :: _ :: []) _
    repeat (first
      | go_big_quiet_skip
      | (go_big_quiet_want
         first
         | (refine q_val (.tmp 6) rfl g6 0 rfl ⟨6, 0, 0, s, []⟩ none 0 none 0 0 CN.out ?_
            simp only [Act.put, List.setIfInBounds_toArray, List.set_cons_zero, List.set_cons_succ]
            go_big_quiet_on)
         | (go_big_quiet_op
            go_big_quiet_on)))
    refine wpQuiet_nil ?_
    refine lone_do (i := 2) 2 rfl (by kernel_rfl) rfl (by rfl) ?_
    intro K hK
    refine oper_call 92 #[.tmp 61] #[41] rfl #[.agg #[.int .i64 6, .int .i64 0, .int .i64 0, .string s, .slice none 0 0, .slice none 0 0]] (by rw [List.map_toArray]; rfl) (enters Tryz.func92 (by kernel_rfl) rfl) (fun v' w' => v' = .int .i64 (chk0V (lf 6 0 0 s)) ∧ Below v0.heap.size v0 w') ((vCheck_any (lf 6 0 0 s) HWF.out none 0 none 0 v0 (vl_lf v0 6 0 0 s).vl).mono fun e' w' ⟨h1, h2⟩ => ⟨_, h1, by rw [chk_lf], h2⟩) ?_
    rintro _ w5 ⟨rfl, hb5⟩
    have HF5 : Hid (Fr r ab cb L W w5 g4 g6 [.int .i64 6, .int .i64 0, .int .i64 0, .string s, .slice none 0 0, .slice none 0 0] j2 e2) := HF0.out.below hb5
    have hc5 := CB.out _ _ C0.out hb5
    refine hK _ _ hc5 ?_
    simp only [Act.put, List.setIfInBounds_toArray, List.set_cons_zero, List.set_cons_succ]
    refine lone_do (i := 3) 1 rfl (by kernel_rfl) rfl (by rfl) ?_
    intro K hK
    refine oper_sta 41 (.tmp 4) (.tmp 60) rfl rfl g4 41 zer [.int .i64 6, .int .i64 0, .int .i64 0, .string s, .slice none 0 0, .slice none 0 0] rfl rfl HF5.out.b4 rfl s25 (by simp [Value.oneCell']) ?_
    intro w6 b6 gr6
    have HB6 : Hid (Blk w6 g4 41 [.int .i64 6, .int .i64 0, .int .i64 0, .string s, .slice none 0 0, .slice none 0 0]) := b6
    have HR6 : Hid (Ro r ab cb L.length W w6 j2 e2) := HF5.out.res b6 gr6
    have hc6 := CS.out _ _ hc5 gr6
    clear b6 gr6 hb5 HF5 HF0
    refine hK _ _ hc6 ?_
    simp only [Act.put, List.setIfInBounds_toArray, List.set_cons_zero, List.set_cons_succ]
    refine lone_calm (i := 4) 0 rfl (by kernel_rfl) rfl rfl hc6 ?_
    have hCq : ∀ p : Prop, (∀ W, C W → p) ↔ p := fun p => ⟨fun h => h _ hc6, fun h _ _ => h⟩
    go_big_quiet_want
    go_big_quiet_op
    go_big_quiet_on
    refine wpQuiet_nil ?_
    refine anyC_done (by kernel_rfl) ⟨rfl, ?_⟩
    clear hc6 hCq hCp hc5 C0 CN CB CS hC
    go_wp2
    refine bodyPost_ret (res_two rfl _ g4 41 _ _ rfl HB6.out Tryz.underlying41 rfl s25) rfl ?_
    exact ⟨(lf 6 0 0 s), none, 0, none, 0, j2, e2, _, rfl, HR6.out, ⟨[], vl_lf w6 6 0 0 s, by simp⟩, HWF.out, HST.out, fun _ => rfl⟩
  by_cases k7 : x = 7
  · subst k7
    have HF2 : Hid (Fr r ab cb L W w4 g4 g6 [.int .i64 7, .int .i64 0, .int .i64 0, .string ⟨#[]⟩, .slice none 0 0, .slice none 0 0] j1 e1) := HF.out
    clear HF
    go_wp2_with fail
    refine (text_any w0 w4 r ab cb L j1 e1 HE4.out HF2.out.ro.blk HF2.out.ro.le HP.out).mono ?_
    rintro e w5 ⟨s, j2, e2, rfl, hs, _, H2⟩
    have HF5 : Hid (Fr r ab cb L W w5 g4 g6 [.int .i64 7, .int .i64 0, .int .i64 0, .string ⟨#[]⟩, .slice none 0 0, .slice none 0 0] j2 e2) := HF2.out.prim H2.out.1
    have HE5 : Hid (En w0 w5 r ab cb L) := HE4.out.ro H2.out.1
    have HS2 : Hid (St txR L j1 e1 j2 e2 s) := H2.out.2
    clear H2 HF2 c0
    go_wp2_with (refine st_one rfl 9 (.tmp 49) (.tmp 48) rfl g6 3 41 _ (.string s) rfl rfl rfl rfl (by simp) HF5.out.b6 s9 ?_)
    intro w6 b6 gr6
    have HF : Hid (Fr r ab cb L W w6 g4 g6 [.int .i64 7, .int .i64 0, .int .i64 0, .string s, .slice none 0 0, .slice none 0 0] j2 e2) := HF5.out.put b6 gr6
    clear b6 gr6 HF5
    have HWF0 : Hid (WfV (lf 7 0 0 s)) := wf_lf 7 0 0 s (by omega) (by omega) (by omega) hs
    have HST : Hid (St (rdV (d + 1)) L i err j2 e2 (lf 7 0 0 s)) := st_bind HS1.out (st_map HS2.out fun t => lf 7 0 0 t)
    go_wp2
    have HWF : Hid (WfV (lf 7 0 0 s)) := HWF0.out
    clear HWF0
    obtain ⟨C, hC⟩ : ∃ C : World → Prop, C = fun w' => Blk w' g6 41 [.int .i64 7, .int .i64 0, .int .i64 0, .string s, .slice none 0 0, .slice none 0 0] := ⟨_, rfl⟩
    have CN : Hid (∀ w', C w' → Nd w' g6 0 ⟨7, 0, 0, s, []⟩ none 0 none 0 0) := fun w' h => by rw [hC] at h; exact ⟨h.cell 0, h.cell 1, h.cell 2, h.cell 3, h.cell 4, h.cell 5⟩
    have CB : Hid (∀ w1 w2, C w1 → Below w1.heap.size w1 w2 → C w2) := fun w1 w2 h k => by rw [hC] at h ⊢; exact h.below k h.lt
    have CS : Hid (∀ w1 w2, C w1 → w1.grownBy w2 (some g4) → C w2) := fun w1 w2 h k => by rw [hC] at h ⊢; exact h.kept k (by intro c; injection c with c; have := HF.out.l46; omega)
    have D0 : Hid (Below w6.heap.size w6 { w6 with drawn := w6.drawn + 1 }) := Below.drew (Below.refl _ _)
    have HF0 : Hid (Fr r ab cb L W { w6 with drawn := w6.drawn + 1 } g4 g6 [.int .i64 7, .int .i64 0, .int .i64 0, .string s, .slice none 0 0, .slice none 0 0] j2 e2) := HF.out.below D0.out
    have C0 : Hid (C { w6 with drawn := w6.drawn + 1 }) := by rw [hC]; exact HF0.out.b6
    refine region_calm C 4 (by kernel_rfl) ?_
    clear D0 HF
    generalize ({ w6 with drawn := w6.drawn + 1 } : World) = v0 at *
    have hCp : ∀ p : Prop, (∀ W, C W → p) ↔ p := fun p => ⟨fun h => h _ C0.out, fun h _ _ => h⟩
    refine seg 3 [0, 1] rfl (by kernel_rfl) whole_blind C0.out (by kernel_rfl) ?_
    change wpQuiet _ _ _ _ (_ :: _ :: []) _
    repeat (first
      | go_big_quiet_skip
      | (go_big_quiet_want
         first
         | (refine q_val (.tmp 6) rfl g6 0 rfl ⟨7, 0, 0, s, []⟩ none 0 none 0 0 CN.out ?_
            simp only [Act.put, List.setIfInBounds_toArray, List.set_cons_zero, List.set_cons_succ]
            go_big_quiet_on)
         | (go_big_quiet_op
            go_big_quiet_on)))
    refine wpQuiet_nil ?_
    refine lone_do (i := 2) 2 rfl (by kernel_rfl) rfl (by rfl) ?_
    intro K hK
    refine oper_call 92 #[.tmp 61] #[41] rfl #[.agg #[.int .i64 7, .int .i64 0, .int .i64 0, .string s, .slice none 0 0, .slice none 0 0]] (by rw [List.map_toArray]; rfl) (enters Tryz.func92 (by kernel_rfl) rfl) (fun v' w' => v' = .int .i64 (chk0V (lf 7 0 0 s)) ∧ Below v0.heap.size v0 w') ((vCheck_any (lf 7 0 0 s) HWF.out none 0 none 0 v0 (vl_lf v0 7 0 0 s).vl).mono fun e' w' ⟨h1, h2⟩ => ⟨_, h1, by rw [chk_lf], h2⟩) ?_
    rintro _ w5 ⟨rfl, hb5⟩
    have HF5 : Hid (Fr r ab cb L W w5 g4 g6 [.int .i64 7, .int .i64 0, .int .i64 0, .string s, .slice none 0 0, .slice none 0 0] j2 e2) := HF0.out.below hb5
    have hc5 := CB.out _ _ C0.out hb5
    refine hK _ _ hc5 ?_
    simp only [Act.put, List.setIfInBounds_toArray, List.set_cons_zero, List.set_cons_succ]
    refine lone_do (i := 3) 1 rfl (by kernel_rfl) rfl (by rfl) ?_
    intro K hK
    refine oper_sta 41 (.tmp 4) (.tmp 60) rfl rfl g4 41 zer [.int .i64 7, .int .i64 0, .int .i64 0, .string s, .slice none 0 0, .slice none 0 0] rfl rfl HF5.out.b4 rfl s25 (by simp [Value.oneCell']) ?_
    intro w6 b6 gr6
    have HB6 : Hid (Blk w6 g4 41 [.int .i64 7, .int .i64 0, .int .i64 0, .string s, .slice none 0 0, .slice none 0 0]) := b6
    have HR6 : Hid (Ro r ab cb L.length W w6 j2 e2) := HF5.out.res b6 gr6
    have hc6 := CS.out _ _ hc5 gr6
    clear b6 gr6 hb5 HF5 HF0
    refine hK _ _ hc6 ?_
    simp only [Act.put, List.setIfInBounds_toArray, List.set_cons_zero, List.set_cons_succ]
    refine lone_calm (i := 4) 0 rfl (by kernel_rfl) rfl rfl hc6 ?_
    have hCq : ∀ p : Prop, (∀ W, C W → p) ↔ p := fun p => ⟨fun h => h _ hc6, fun h _ _ => h⟩
    go_big_quiet_want
    go_big_quiet_op
    go_big_quiet_on
    refine wpQuiet_nil ?_
    refine anyC_done (by kernel_rfl) ⟨rfl, ?_⟩
    clear hc6 hCq hCp hc5 C0 CN CB CS hC
    go_wp2
    refine bodyPost_ret (res_two rfl _ g4 41 _ _ rfl HB6.out Tryz.underlying41 rfl s25) rfl ?_
    exact ⟨(lf 7 0 0 s), none, 0, none, 0, j2, e2, _, rfl, HR6.out, ⟨[], vl_lf w6 7 0 0 s, by simp⟩, HWF.out, HST.out, fun _ => rfl⟩
  by_cases k8 : x = 8
  · subst k8
    have HF2 : Hid (Fr r ab cb L W w4 g4 g6 [.int .i64 8, .int .i64 0, .int .i64 0, .string ⟨#[]⟩, .slice none 0 0, .slice none 0 0] j1 e1) := HF.out
    clear HF
    have KN := N8.out w0 w4 r ab cb L j1 e1 HE4.out HF2.out.ro.blk HF2.out.ro.le (fun h => by
      rcases HS1.out with ⟨a, _, c⟩ | ⟨a, ⟨b, _, _⟩ | ⟨e, _, c, q⟩⟩
      · exact absurd (c ▸ h) a
      · rcases HSm.out a with h1 | ⟨p, rest, h1, h2⟩
        · exact .inl h1
        · rw [rdV_kd, bind_ok b] at h1
          exact .inr ⟨p, rest, h1, h2⟩
      · omega) HP.out
    go_wp2_with fail
    refine KN.mono ?_
    clear KN c0
    rintro e w5 ⟨p, na, nc, ka, kc, j2, e2, rf, rfl, H5⟩
    have HF5 : Hid (Fr r ab cb L W w5 g4 g6 [.int .i64 8, .int .i64 0, .int .i64 0, .string ⟨#[]⟩, .slice none 0 0, .slice none 0 0] j2 e2) := HF2.out.prim H5.out.ro
    have hz4 : g6 < w4.heap.size := HF2.out.b6.lt
    go_wp2_with (refine st_all rfl 41 (.tmp 4) (.tmp 58) rfl g4 41 zer (six p.1 na nc ka p.2.list.length kc) rfl rfl HF5.out.b4 rfl s25 (six_one _ _ _ _ _ _) ?_)
    intro w6 b6 gr6
    have HB6 : Hid (Blk w6 g4 41 (six p.1 na nc ka p.2.list.length kc)) := b6
    have HV6 : Hid (Vo (rdV (d + 1)) r ab cb L W w6 i err p na nc ka kc j2 e2 rf) := by
      have hl := HF2.out.ro.gr.size
      have h46 := HF2.out.l46
      refine ⟨HF5.out.res b6 gr6, ?_, H5.out.wf, st_bind HS1.out H5.out.st, H5.out.rf⟩
      obtain ⟨Lp, h1, h2⟩ := H5.out.vl
      refine ⟨Lp, h1.keep fun x hx => ?_, fun x hx => ?_⟩
      · exact gr6.block x (h2 x hx).2 (by intro c; injection c with c; have := (h2 x hx).1; omega)
      · have := h2 x hx
        have := gr6.size
        omega
    clear b6 gr6 H5 HF5 HF2
    go_wp2
    refine bodyPost_ret (res_two rfl _ g4 41 _ _ rfl HB6.out Tryz.underlying41 rfl s25) rfl ?_
    exact ⟨p, na, nc, ka, kc, j2, e2, rf, rfl, HV6.out⟩
  by_cases k9 : x = 9
  · subst k9
    have HF2 : Hid (Fr r ab cb L W w4 g4 g6 [.int .i64 9, .int .i64 0, .int .i64 0, .string ⟨#[]⟩, .slice none 0 0, .slice none 0 0] j1 e1) := HF.out
    clear HF
    have KN := N9.out w0 w4 r ab cb L j1 e1 HE4.out HF2.out.ro.blk HF2.out.ro.le (fun h => by
      rcases HS1.out with ⟨a, _, c⟩ | ⟨a, ⟨b, _, _⟩ | ⟨e, _, c, q⟩⟩
      · exact absurd (c ▸ h) a
      · rcases HSm.out a with h1 | ⟨p, rest, h1, h2⟩
        · exact .inl h1
        · rw [rdV_kd, bind_ok b] at h1
          exact .inr ⟨p, rest, h1, h2⟩
      · omega) HP.out
    go_wp2_with fail
    refine KN.mono ?_
    clear KN c0
    rintro e w5 ⟨p, na, nc, ka, kc, j2, e2, rf, rfl, H5⟩
    have HF5 : Hid (Fr r ab cb L W w5 g4 g6 [.int .i64 9, .int .i64 0, .int .i64 0, .string ⟨#[]⟩, .slice none 0 0, .slice none 0 0] j2 e2) := HF2.out.prim H5.out.ro
    have hz4 : g6 < w4.heap.size := HF2.out.b6.lt
    go_wp2_with (refine st_all rfl 41 (.tmp 4) (.tmp 58) rfl g4 41 zer (six p.1 na nc ka p.2.list.length kc) rfl rfl HF5.out.b4 rfl s25 (six_one _ _ _ _ _ _) ?_)
    intro w6 b6 gr6
    have HB6 : Hid (Blk w6 g4 41 (six p.1 na nc ka p.2.list.length kc)) := b6
    have HV6 : Hid (Vo (rdV (d + 1)) r ab cb L W w6 i err p na nc ka kc j2 e2 rf) := by
      have hl := HF2.out.ro.gr.size
      have h46 := HF2.out.l46
      refine ⟨HF5.out.res b6 gr6, ?_, H5.out.wf, st_bind HS1.out H5.out.st, H5.out.rf⟩
      obtain ⟨Lp, h1, h2⟩ := H5.out.vl
      refine ⟨Lp, h1.keep fun x hx => ?_, fun x hx => ?_⟩
      · exact gr6.block x (h2 x hx).2 (by intro c; injection c with c; have := (h2 x hx).1; omega)
      · have := h2 x hx
        have := gr6.size
        omega
    clear b6 gr6 H5 HF5 HF2
    go_wp2
    refine bodyPost_ret (res_two rfl _ g4 41 _ _ rfl HB6.out Tryz.underlying41 rfl s25) rfl ?_
    exact ⟨p, na, nc, ka, kc, j2, e2, rf, rfl, HV6.out⟩
  have hn1 : ((x : Int) == 1) = false := by simp; omega
  have hn2 : ((x : Int) == 2) = false := by simp; omega
  have hn3 : ((x : Int) == 3) = false := by simp; omega
  have hn4 : ((x : Int) == 4) = false := by simp; omega
  have hn5 : ((x : Int) == 5) = false := by simp; omega
  have hn6 : ((x : Int) == 6) = false := by simp; omega
  have hn7 : ((x : Int) == 7) = false := by simp; omega
  have hn8 : ((x : Int) == 8) = false := by simp; omega
  have hn9 : ((x : Int) == 9) = false := by simp; omega
  have KF := fail_any r ab cb L.length j1 HF.out.ro.le e1 3 w4 HF.out.ro.blk
  obtain ⟨E2, HE2⟩ : ∃ E2, Hid ((if e1 ≠ 0 then e1 else 3) = E2) := ⟨_, rfl⟩
  rw [HE2.out] at KF
  go_wp2_with fail
  refine KF.mono ?_
  clear KF c0
  rintro e v5 ⟨rfl, H5⟩
  have HF5 : Hid (Fr r ab cb L W v5 g4 g6 [.int .i64 (x : Int), .int .i64 0, .int .i64 0, .string ⟨#[]⟩, .slice none 0 0, .slice none 0 0] j1 E2) := HF.out.prim H5.out
  clear HF H5
  have HF : Hid (Fr r ab cb L W v5 g4 g6 [.int .i64 (x : Int), .int .i64 0, .int .i64 0, .string ⟨#[]⟩, .slice none 0 0, .slice none 0 0] j1 E2) := HF5.out
  clear HF5
  have HWF0 : Hid (WfV (lf (x : Int) 0 0 ⟨#[]⟩)) := wf_lf (x : Int) 0 0 ⟨#[]⟩ (by omega) (by omega) (by omega) (by decide)
  have HST : Hid (St (rdV (d + 1)) L i err j1 E2 (lf (x : Int) 0 0 ⟨#[]⟩)) := by
    rw [← HE2.out]
    refine st_bind HS1.out ?_
    have e : kdR d x = .no 3 := by
      unfold kdR
      rw [if_neg k1, if_neg k2, if_neg k3, if_neg k4, if_neg k5, if_neg k6, if_neg k7, if_neg k8, if_neg k9]
    show St (kdR d x) L j1 e1 j1 _ _
    rw [e]
    exact st_no 3 (by decide) _ L j1 e1
  go_wp2
  have HWF : Hid (WfV (lf (x : Int) 0 0 ⟨#[]⟩)) := HWF0.out
  clear HWF0
  obtain ⟨C, hC⟩ : ∃ C : World → Prop, C = fun w' => Blk w' g6 41 [.int .i64 (x : Int), .int .i64 0, .int .i64 0, .string ⟨#[]⟩, .slice none 0 0, .slice none 0 0] := ⟨_, rfl⟩
  have CN : Hid (∀ w', C w' → Nd w' g6 0 ⟨(x : Int), 0, 0, ⟨#[]⟩, []⟩ none 0 none 0 0) := fun w' h => by rw [hC] at h; exact ⟨h.cell 0, h.cell 1, h.cell 2, h.cell 3, h.cell 4, h.cell 5⟩
  have CB : Hid (∀ w1 w2, C w1 → Below w1.heap.size w1 w2 → C w2) := fun w1 w2 h k => by rw [hC] at h ⊢; exact h.below k h.lt
  have CS : Hid (∀ w1 w2, C w1 → w1.grownBy w2 (some g4) → C w2) := fun w1 w2 h k => by rw [hC] at h ⊢; exact h.kept k (by intro c; injection c with c; have := HF.out.l46; omega)
  have D0 : Hid (Below v5.heap.size v5 { v5 with drawn := v5.drawn + 1 }) := Below.drew (Below.refl _ _)
  have HF0 : Hid (Fr r ab cb L W { v5 with drawn := v5.drawn + 1 } g4 g6 [.int .i64 (x : Int), .int .i64 0, .int .i64 0, .string ⟨#[]⟩, .slice none 0 0, .slice none 0 0] j1 E2) := HF.out.below D0.out
  have C0 : Hid (C { v5 with drawn := v5.drawn + 1 }) := by rw [hC]; exact HF0.out.b6
  refine region_calm C 4 (by kernel_rfl) ?_
  clear D0 HF
  generalize ({ v5 with drawn := v5.drawn + 1 } : World) = v0 at *
  have hCp : ∀ p : Prop, (∀ W, C W → p) ↔ p := fun p => ⟨fun h => h _ C0.out, fun h _ _ => h⟩
  refine seg 3 [0, 1] rfl (by kernel_rfl) whole_blind C0.out (by kernel_rfl) ?_
  change wpQuiet _ _ _ _ (_ :: _ :: []) _
  repeat (first
    | go_big_quiet_skip
    | (go_big_quiet_want
       first
       | (refine q_val (.tmp 6) rfl g6 0 rfl ⟨(x : Int), 0, 0, ⟨#[]⟩, []⟩ none 0 none 0 0 CN.out ?_
          simp only [Act.put, List.setIfInBounds_toArray, List.set_cons_zero, List.set_cons_succ]
          go_big_quiet_on)
       | (go_big_quiet_op
          go_big_quiet_on)))
  refine wpQuiet_nil ?_
  refine lone_do (i := 2) 2 rfl (by kernel_rfl) rfl (by rfl) ?_
  intro K hK
  refine oper_call 92 #[.tmp 61] #[41] rfl #[.agg #[.int .i64 (x : Int), .int .i64 0, .int .i64 0, .string ⟨#[]⟩, .slice none 0 0, .slice none 0 0]] (by rw [List.map_toArray]; rfl) (enters Tryz.func92 (by kernel_rfl) rfl) (fun v' w' => v' = .int .i64 (chk0V (lf (x : Int) 0 0 ⟨#[]⟩)) ∧ Below v0.heap.size v0 w') ((vCheck_any (lf (x : Int) 0 0 ⟨#[]⟩) HWF.out none 0 none 0 v0 (vl_lf v0 (x : Int) 0 0 ⟨#[]⟩).vl).mono fun e' w' ⟨h1, h2⟩ => ⟨_, h1, by rw [chk_lf], h2⟩) ?_
  rintro _ w5 ⟨rfl, hb5⟩
  have HF5 : Hid (Fr r ab cb L W w5 g4 g6 [.int .i64 (x : Int), .int .i64 0, .int .i64 0, .string ⟨#[]⟩, .slice none 0 0, .slice none 0 0] j1 E2) := HF0.out.below hb5
  have hc5 := CB.out _ _ C0.out hb5
  refine hK _ _ hc5 ?_
  simp only [Act.put, List.setIfInBounds_toArray, List.set_cons_zero, List.set_cons_succ]
  refine lone_do (i := 3) 1 rfl (by kernel_rfl) rfl (by rfl) ?_
  intro K hK
  refine oper_sta 41 (.tmp 4) (.tmp 60) rfl rfl g4 41 zer [.int .i64 (x : Int), .int .i64 0, .int .i64 0, .string ⟨#[]⟩, .slice none 0 0, .slice none 0 0] rfl rfl HF5.out.b4 rfl s25 (by simp [Value.oneCell']) ?_
  intro w6 b6 gr6
  have HB6 : Hid (Blk w6 g4 41 [.int .i64 (x : Int), .int .i64 0, .int .i64 0, .string ⟨#[]⟩, .slice none 0 0, .slice none 0 0]) := b6
  have HR6 : Hid (Ro r ab cb L.length W w6 j1 E2) := HF5.out.res b6 gr6
  have hc6 := CS.out _ _ hc5 gr6
  clear b6 gr6 hb5 HF5 HF0
  refine hK _ _ hc6 ?_
  simp only [Act.put, List.setIfInBounds_toArray, List.set_cons_zero, List.set_cons_succ]
  refine lone_calm (i := 4) 0 rfl (by kernel_rfl) rfl rfl hc6 ?_
  have hCq : ∀ p : Prop, (∀ W, C W → p) ↔ p := fun p => ⟨fun h => h _ hc6, fun h _ _ => h⟩
  go_big_quiet_want
  go_big_quiet_op
  go_big_quiet_on
  refine wpQuiet_nil ?_
  refine anyC_done (by kernel_rfl) ⟨rfl, ?_⟩
  clear hc6 hCq hCp hc5 C0 CN CB CS hC
  go_wp2
  refine bodyPost_ret (res_two rfl _ g4 41 _ _ rfl HB6.out Tryz.underlying41 rfl s25) rfl ?_
  exact ⟨(lf (x : Int) 0 0 ⟨#[]⟩), none, 0, none, 0, j1, E2, _, rfl, HR6.out, ⟨[], vl_lf w6 (x : Int) 0 0 ⟨#[]⟩, by simp⟩, HWF.out, HST.out, fun _ => rfl⟩
end Go.Proofs.YtmbglggodifboaaGreatDoor
