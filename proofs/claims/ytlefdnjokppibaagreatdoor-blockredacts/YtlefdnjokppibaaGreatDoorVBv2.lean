/-
  value.copyOf.
-/
import Derived.Test.YtlefdnjokppibaaGreatDoorVG5x
namespace Go.Proofs.YtlefdnjokppibaaGreatDoor.Cpv
open Go.RowKit
set_option linter.unusedVariables false
theorem enters {f : FuncId} {fn : Func} {c : Code} (hf : Tryz.prog.funcs[f]? = some fn) (hname : (fn.name == "runtime.NumGoroutine") = false) (hb : fn.body = some c) : ∀ (args : Array Value) (w : World), (callFunc f args).run Tryz.prog w = .ok (.enter f args) w := by
  intro args w
  have h1 : fn.name ≠ "runtime.NumGoroutine" := by simpa using hname
  simp [callFunc, hf, h1, hb]
theorem entersC : ∀ (args : Array Value) (w : World), (callFunc 74 args).run Tryz.prog w = .ok (.enter 74 args) w := enters Tryz.func74 (by kernel_rfl) rfl
theorem row_of {w : World} {base n : Nat} {v : Value} {ss : List Value} (h : w.ownsRow base 41 6 v n ss) : ∃ ka kc sp, v = .slice ka n kc ∧ Cap ka n kc ∧ ((n = 0 ∧ ka = none ∧ kc = 0) ∨ ∃ g, ka = some ⟨g, 0, none⟩ ∧ Blk w g 41 (ss ++ sp) ∧ base ≤ g ∧ (ss ++ sp).length = kc * 6 ∧ kc ≤ maxLen) := by
  rcases h with ⟨h1, ⟨rfl, h0⟩ | ⟨g, cap, cur, rfl, hg, hh, hle, hm, h5, h6⟩⟩
  · exact ⟨none, 0, [], by rw [h0], ⟨by omega, fun _ => rfl, by omega⟩, .inl ⟨h0, rfl, rfl⟩⟩
  · refine ⟨_, cap, cur.toList.drop (n * 6), rfl, ⟨hle, (fun e => by cases e), hm⟩, .inr ⟨g, rfl, ?_, hg, ?_, hm⟩⟩
    · unfold Blk
      rw [hh, ← h6, List.take_append_drop]
    · rw [← h6, List.take_append_drop, Array.length_toList, h5]
theorem own_kept {w w' : World} {B e size n b : Nat} {v : Value} {xs : List Value} (h : w.ownsRow B e size v n xs) (g : w.grownBy w' (some b)) (hb : b < B) : w'.ownsRow B e size v n xs := by
  refine World.ownsRow.kept h g ?_
  cases hob : v.ownBlock with
  | none => exact .inl rfl
  | some x => exact .inr fun c => by injection c with c; have := (World.ownsRow.lt h x hob).1; omega
def PIh (p0 : Vt) : Prop := ∀ p : Vt, wt p < wt p0 → WfV p → ws p ≤ 100000 → ∀ (na : Option Addr) (nc : Nat) (ka : Option Addr) (kc : Nat) (W : World), Vl W p na nc ka kc →
  Calls Tryz.prog 74 #[.agg #[.int .i64 p.1.k, .int .i64 p.1.n, .int .i64 p.1.s, .string p.1.t, .slice na p.1.ns.length nc, .slice ka p.2.list.length kc]] W fun e w' => ∃ na' nc' ka' kc', e = .returned (.agg #[.int .i64 p.1.k, .int .i64 p.1.n, .int .i64 p.1.s, .string p.1.t, .slice na' p.1.ns.length nc', .slice ka' p.2.list.length kc']) ∧ Hid (∃ L, VlL w' p na' nc' ka' kc' L ∧ (∀ x ∈ L, W.heap.size ≤ x ∧ x < w'.heap.size) ∧ L.Nodup ∧ Below W.heap.size W w')
set_option maxRecDepth 8000 in
set_option maxHeartbeats 1000000 in
theorem copy_step (p : Vt) (ih : PIh p) (hwf : WfV p) (hws : ws p ≤ 100000) (na : Option Addr) (nc : Nat) (ka : Option Addr) (kc : Nat) (W : World) (hv : Vl W p na nc ka kc) :
    Calls Tryz.prog 74 #[.agg #[.int .i64 p.1.k, .int .i64 p.1.n, .int .i64 p.1.s, .string p.1.t, .slice na p.1.ns.length nc, .slice ka p.2.list.length kc]] W fun e w' => ∃ na' nc' ka' kc', e = .returned (.agg #[.int .i64 p.1.k, .int .i64 p.1.n, .int .i64 p.1.s, .string p.1.t, .slice na' p.1.ns.length nc', .slice ka' p.2.list.length kc']) ∧ Hid (∃ L, VlL w' p na' nc' ka' kc' L ∧ (∀ x ∈ L, W.heap.size ≤ x ∧ x < w'.heap.size) ∧ L.Nodup ∧ Below W.heap.size W w' ∧ ∃ Ln ks L2, Top w' (W.heap.size + 2) p na' nc' ka' kc' Ln ks L2) := by
  obtain ⟨W2, HW2⟩ : ∃ W2, Hid ((W.alloc (.cells #[.int .i64 p.1.k, .int .i64 p.1.n, .int .i64 p.1.s, .string p.1.t, .slice na p.1.ns.length nc, .slice ka p.2.list.length kc] 41)).alloc (.cells #[.int .i64 0, .int .i64 0, .int .i64 0, .string ⟨#[]⟩, .slice none 0 0, .slice none 0 0] 41) = W2) := ⟨_, rfl⟩
  have hkl : p.2.list.length ≤ 100000 := by have := len_ws p.2; simp only [ws] at hws; omega
  have hnl : p.1.ns.length ≤ 100000 := by simp only [ws, wsH] at hws; omega
  have hbW : Below W.heap.size W W2 := by rw [← HW2.out]; exact ((Below.refl _ _).alloc (Nat.le_refl _) _).alloc (by simp) _
  have HBW : Hid (Below W.heap.size W W2) := hbW
  have HB1 : Hid (Blk W2 W.heap.size 41 (six p.1 na nc ka p.2.list.length kc)) := by rw [← HW2.out]; exact (blk_new W 41 (six p.1 na nc ka p.2.list.length kc)).alloc _
  have HB2 : Hid (Blk W2 (W.heap.size + 1) 41 zer) := by
    rw [← HW2.out]
    have h := blk_new (W.alloc (.cells #[.int .i64 p.1.k, .int .i64 p.1.n, .int .i64 p.1.s, .string p.1.t, .slice na p.1.ns.length nc, .slice ka p.2.list.length kc] 41)) 41 zer
    rw [show (W.alloc (.cells #[.int .i64 p.1.k, .int .i64 p.1.n, .int .i64 p.1.s, .string p.1.t, .slice na p.1.ns.length nc, .slice ka p.2.list.length kc] 41)).heap.size = W.heap.size + 1 by simp] at h
    exact h
  have HN : Hid (Nms W2 na p.1.ns) := hv.nms.below hbW
  have HCp : Hid (Cap na p.1.ns.length nc) := hv.nc
  have HSz : Hid (W2.heap.size = W.heap.size + 2) := by have := HW2.out; subst this; show _ = _; simp
  obtain ⟨ss, hss⟩ : ∃ ss, Src W p.2 ss ∧ ss.length = p.2.list.length * 6 ∧ (∀ ad, ka = some ad → ∀ j u, ss[j]? = some u → ad.spot = none ∧ W.cell? (ad.add j) = some u) ∧ (ka = none → kc = 0 ∧ p.2.list.length = 0) := by
    rcases hv.slc with e | ⟨b, o, rfl, h⟩
    · refine ⟨[], by rw [e]; rfl, by rw [e]; rfl, (fun ad _ j u hj => by simp at hj), fun hn => ⟨hv.kc.nil hn, by rw [e]; rfl⟩⟩
    · obtain ⟨ss, s1, s2, s3⟩ := src_at h
      exact ⟨ss, s1, s2, (fun ad e j u hj => by obtain rfl := Option.some.inj e; exact ⟨rfl, by rw [Addr.add_lit]; exact s3 j u hj⟩), (fun e => by cases e)⟩
  have HSS : Hid _ := hss
  have HI : Hid (PIh p) := ih
  have HW : Hid (WfV p) := hwf
  have HS : Hid (ws p ≤ 100000) := hws
  clear hbW hv ih hwf hws hss
  go_enter Tryz.func74, Tryz.ntmps74
  go_wp2_with (at_builtin; go_must (generalize hWW : World.alloc (World.alloc W _) _ = W9; obtain rfl : W2 = W9 := (by rw [← hWW, ← HW2.out]); clear hWW HW2; refine app_names rfl (.const (.slice none 0 0)) (.tmp 6) rfl (W.heap.size + 2) _ 0 [] rfl (World.ownsRow_nil _ _ _ _) na nc p.1.ns rfl HN.out HCp.out.nil (by omega) (by rw [HSz.out]; omega) ?_))
  intro v1 w4 o1 g1 a1
  have l1 := World.ownsRow.lt o1
  obtain ⟨na1, nc1, Ln, rfl, nm1, cp1, ob1, nd1⟩ := nml_of o1
  have HB4 : Hid (Blk w4 W.heap.size 41 (six p.1 na nc ka p.2.list.length kc)) := HB1.out.kept g1 (by simp [Value.ownBlock])
  have HB5 : Hid (Blk w4 (W.heap.size + 1) 41 zer) := HB2.out.kept g1 (by simp [Value.ownBlock])
  have HBl : Hid (Below W.heap.size W w4) := HBW.out.grown g1 HBW.out.size (by intro x hx; simp [Value.ownBlock] at hx)
  have HN4 : Hid (NmL w4 na1 p.1.ns Ln) := nm1
  have HR4 : Hid (Cap na1 p.1.ns.length nc1 ∧ Ln.Nodup ∧ ∀ x ∈ Ln, W.heap.size + 2 ≤ x ∧ x < w4.heap.size) := ⟨cp1, nd1, fun x hx => l1 x (ob1 x hx)⟩
  have HO4 : Hid (w4.ownsRow (W.heap.size + 2) 9 1 (.slice na1 p.1.ns.length nc1) p.1.ns.length (p.1.ns.map Value.string)) := o1
  clear o1 g1 a1 l1 nm1 cp1 ob1 nd1 HB1 HB2 HBW HN HSz
  go_wp2_with (refine st_one rfl 38 (.tmp 8) (.tmp 7) rfl W.heap.size 4 41 _ _ rfl rfl rfl rfl (by simp [six]) HB4.out s22 ?_)
  intro w5 b5 g5
  have HB6 : Hid (Blk w5 (W.heap.size + 1) 41 zer) := HB5.out.kept g5 (by simp)
  have HBm : Hid (Below W.heap.size W w5) := HBl.out.grown g5 HBl.out.size (by intro x hx; injection hx with hx; omega)
  have HN5 : Hid (NmL w5 na1 p.1.ns Ln) := HN4.out.keep fun x hx => by
    have := HR4.out.2.2 x hx
    exact g5.block x this.2 (by intro c; injection c with c; omega)
  have HR5 : Hid (Cap na1 p.1.ns.length nc1 ∧ Ln.Nodup ∧ ∀ x ∈ Ln, W.heap.size + 2 ≤ x ∧ x < w5.heap.size) := by
    have e1 := HR4.out
    exact ⟨e1.1, e1.2.1, fun x hx => ⟨(e1.2.2 x hx).1, Nat.lt_of_lt_of_le (e1.2.2 x hx).2 g5.size⟩⟩
  have HB7 : Hid (Blk w5 W.heap.size 41 (six p.1 na1 nc1 ka p.2.list.length kc)) := b5
  have c5 : w5.cell? ⟨W.heap.size, 5, none⟩ = some (.slice ka p.2.list.length kc) := b5.cell 5
  have HZ5 : Hid (W.heap.size + 2 ≤ w5.heap.size) := by have := HB6.out.lt; show _ ≤ _; omega
  have HC5 : Hid (∀ ad, ka = some ad → ∀ j u, ss[j]? = some u → w5.cell? (ad.add j) = some u) := fun ad e j u hj => by
    obtain ⟨hsp, h⟩ := HSS.out.2.2.1 ad e j u hj
    obtain ⟨b, oo, sp⟩ := ad
    simp only at hsp
    subst hsp
    rw [Addr.add_lit] at h ⊢
    rw [HBm.out.cell (p := ⟨b, oo + j, none⟩) (cell_lt h)]
    exact h
  have HO5 : Hid (w5.ownsRow (W.heap.size + 2) 9 1 (.slice na1 p.1.ns.length nc1) p.1.ns.length (p.1.ns.map Value.string)) := own_kept HO4.out g5 (by omega)
  clear b5 g5 HB4 HB5 HBl HN4 HR4 HCp HO4
  go_wp2_with (at_builtin; go_must (refine app_src rfl (.const (.slice none 0 0)) (.tmp 10) rfl (W.heap.size + 2) _ 0 [] rfl (World.ownsRow_nil _ _ _ _) ka p.2.list.length kc ss rfl HSS.out.2.1 HC5.out HSS.out.2.2.2 (src_one HSS.out.1) (by omega) HZ5.out ?_))
  intro v2 w6 o2 g2 a2
  obtain ⟨ka2, kc2, sp, rfl, cp2, hrow⟩ := row_of o2
  have hrow2 : Hid ((p.2.list.length = 0 ∧ ka2 = none ∧ kc2 = 0) ∨ ∃ g, ka2 = some ⟨g, 0, none⟩ ∧ Blk w6 g 41 (ss ++ sp) ∧ w5.heap.size = g ∧ (ss ++ sp).length = kc2 * 6 ∧ kc2 ≤ maxLen) := by
    rcases hrow with h | ⟨g, rfl, h1, h2, h3, h4⟩
    · exact .inl ⟨h.1, h.2.1, h.2.2⟩
    · refine .inr ⟨g, rfl, h1, ?_, h3, h4⟩
      rcases a2 with e | e
      · simp [Value.ownBlock] at e
      · simp [Value.ownBlock] at e; exact e.symm
  have HB8 : Hid (Blk w6 W.heap.size 41 (six p.1 na1 nc1 ka p.2.list.length kc)) := HB7.out.kept g2 (by simp [Value.ownBlock])
  have HB9 : Hid (Blk w6 (W.heap.size + 1) 41 zer) := HB6.out.kept g2 (by simp [Value.ownBlock])
  have HBn : Hid (Below W.heap.size W w6) := HBm.out.grown g2 HBm.out.size (by intro x hx; simp [Value.ownBlock] at hx)
  have HN6 : Hid (NmL w6 na1 p.1.ns Ln) := HN5.out.keep fun x hx => g2.block x (HR5.out.2.2 x hx).2 (by simp [Value.ownBlock])
  have HO6 : Hid (w6.ownsRow (W.heap.size + 2) 9 1 (.slice na1 p.1.ns.length nc1) p.1.ns.length (p.1.ns.map Value.string)) := World.ownsRow.kept HO5.out g2 (by cases hob : (Value.slice na1 p.1.ns.length nc1).ownBlock <;> simp [Value.ownBlock])
  have HL5 : Hid (∀ x, (Value.slice na1 p.1.ns.length nc1).ownBlock = some x → x < w5.heap.size) := fun x hx => (World.ownsRow.lt HO5.out x hx).2
  have HR6 : Hid (Cap ka2 p.2.list.length kc2 ∧ w5.heap.size ≤ w6.heap.size) := ⟨cp2, g2.size⟩
  clear o2 g2 a2 cp2 hrow HB6 HB7 HBm HN5 c5 HC5
  go_wp2_with (refine st_one rfl 39 (.tmp 12) (.tmp 11) rfl W.heap.size 5 41 _ _ rfl rfl rfl rfl (by simp [six]) HB8.out s23 ?_)
  intro w7 b7 g7
  have HI0 : Hid (PInv W p na1 nc1 ka2 kc2 ss sp Ln 0 [] [] w7) := by
    have e1 := HR5.out
    have e2 := HR6.out
    have e3 := g7.size
    refine ⟨HBn.out.grown g7 HBn.out.size (by intro x hx; injection hx with hx; omega), b7, HB9.out.kept g7 (by simp), ?_, own_kept HO6.out g7 (by omega), fun x hx => ?_, e2.1, ⟨rfl, rfl⟩, HN6.out.keep fun x hx => ?_, e1.1, fun x hx => ?_, by simpa using e1.2.1⟩
    · rcases hrow2.out with h | ⟨g, h1, h2, h3, h4, h5⟩
      · exact .inl h
      · have z1 := HZ5.out
        refine .inr ⟨g, h1, ?_, by omega, fun hx => ?_, by simpa using h4, h5⟩
        · simpa using h2.kept g7 (by intro c; injection c with c; omega)
        · simp only [List.append_nil] at hx
          have := (e1.2.2 g hx).2
          omega
    · have hx5 := HL5.out x hx
      refine ⟨by omega, by simp, fun c => ?_⟩
      rcases hrow2.out with h | ⟨g, h1, h2, h3, h4, h5⟩
      · rw [h.2.1] at c; cases c
      · rw [h1] at c
        injection c with c
        injection c with c _
        omega
    · have := e1.2.2 x hx
      exact g7.block x (by omega) (by intro c; injection c with c; omega)
    · simp only [List.append_nil] at hx
      have := e1.2.2 x hx
      omega
  have c5 : w7.cell? ⟨W.heap.size, 5, none⟩ = some (.slice ka2 p.2.list.length kc2) := b7.cell 5
  clear b7 g7 HB8 HB9 HBn HN6 HR5 HR6 hrow2 HZ5
  go_wp2
  clear c5
  go_loopw [3, 4, 16] (fun _ _ i wr => ∃ (k : Nat) (cs : List Value) (L : List Nat), k ≤ p.2.list.length ∧ i = .int .i64 (k : Int) ∧ Hid (PInv W p na1 nc1 ka2 kc2 ss sp Ln k cs L wr)) (fun _ _ i _ => p.2.list.length - (intOf i).toNat)
  case atStart => exact ⟨0, [], [], by omega, rfl, HI0.out⟩
  case round =>
    clear HI0
    obtain ⟨k, cs, L, hk, rfl, HC⟩ := hrel
    by_cases hlt : k < p.2.list.length
    case neg =>
      obtain rfl : k = p.2.list.length := by omega
      have HB7 : Hid (Blk wr (W.heap.size + 1) 41 zer) := HC.out.b2
      have b7 := HC.out.b1
      have d0 : wr.cell? ⟨W.heap.size, 0, none⟩ = some (.int .i64 p.1.k) := b7.cell 0
      have d1 : wr.cell? ⟨W.heap.size, 1, none⟩ = some (.int .i64 p.1.n) := b7.cell 1
      have d2 : wr.cell? ⟨W.heap.size, 2, none⟩ = some (.int .i64 p.1.s) := b7.cell 2
      have d3 : wr.cell? ⟨W.heap.size, 3, none⟩ = some (.string p.1.t) := b7.cell 3
      have d4 : wr.cell? ⟨W.heap.size, 4, none⟩ = some (.slice na1 p.1.ns.length nc1) := b7.cell 4
      have d5 : wr.cell? ⟨W.heap.size, 5, none⟩ = some (.slice ka2 p.2.list.length kc2) := b7.cell 5
      clear b7
      go_wp2_with (refine st_all rfl 41 (.tmp 2) (.tmp 28) rfl (W.heap.size + 1) 41 zer (six p.1 na1 nc1 ka2 p.2.list.length kc2) rfl rfl HB7.out rfl s25 (six_one _ _ _ _ _ _) ?_)
      intro w8 b8 g8
      have HG8 : Hid (wr.grownBy w8 (some (W.heap.size + 1))) := g8
      have HB8 : Hid (Blk w8 (W.heap.size + 1) 41 (six p.1 na1 nc1 ka2 p.2.list.length kc2)) := b8
      clear b8 g8
      have HD : Hid (∃ L, VlL w8 p na1 nc1 ka2 kc2 L ∧ (∀ x ∈ L, W.heap.size ≤ x ∧ x < w8.heap.size) ∧ L.Nodup ∧ Below W.heap.size W w8 ∧ ∃ Ln ks L2, Top w8 (W.heap.size + 2) p na1 nc1 ka2 kc2 Ln ks L2) := by
        have z2 := HG8.out.size
        obtain ⟨L', y1, y2, y3⟩ := HC.out.done (w' := w8) (fun x hx hx2 => HG8.out.block x hx2 (by intro c; injection c with c; omega)) z2
        have y5 := HC.out.below.grown HG8.out HC.out.below.size (by intro x hx; injection hx with hx; omega)
        exact ⟨L', y1, y2, y3, y5, _, _, _, HC.out.top HSS.out.2.1 (fun x hx hx2 => HG8.out.block x hx2 (by intro c; injection c with c; omega)) z2⟩
      clear HG8 HB7 HC
      go_wp2
      refine bodyPost_ret (res_row rfl _ (W.heap.size + 1) 41 _ _ rfl HB8.out Tryz.underlying41 rfl s25) rfl ?_
      exact ⟨na1, nc1, ka2, kc2, rfl, HD.out⟩
    obtain ⟨q, hq⟩ : ∃ q, p.2.list[k]? = some q := ⟨_, List.getElem?_eq_getElem hlt⟩
    obtain ⟨na', nc', ka', kc', hvq, hsd⟩ := HSS.out.1.get hq
    obtain ⟨g, hg, hgb, hg2, hg3, hgl, hgm⟩ : ∃ g, ka2 = some ⟨g, 0, none⟩ ∧ Blk wr g 41 (cs ++ (ss.drop (k * 6) ++ sp)) ∧ W.heap.size + 2 ≤ g ∧ g ∉ Ln ++ L ∧ (cs ++ (ss.drop (k * 6) ++ sp)).length = kc2 * 6 ∧ kc2 ≤ maxLen := by
      rcases HC.out.row with h | h
      · omega
      · exact h
    subst hg
    rw [hsd, List.append_assoc] at hgb hgl
    have hcl : cs.length = k * 6 := by rw [HC.out.lay.len, take_len _ _ (by omega)]
    have hnd : Nd wr g (k * 6) q.1 na' nc' ka' q.2.list.length kc' := nd_six fun j u hj => by
      rw [hgb.cell, List.getElem?_append_right (by omega), hcl, Nat.add_sub_cancel_left, List.getElem?_append_left (List.getElem?_eq_some_iff.1 hj).1]
      exact hj
    obtain ⟨W8, HW8⟩ : ∃ W8, Hid (wr.alloc (.cells #[.int .i64 q.1.k, .int .i64 q.1.n, .int .i64 q.1.s, .string q.1.t, .slice na' q.1.ns.length nc', .slice ka' q.2.list.length kc'] 41) = W8) := ⟨_, rfl⟩
    have b8 : Below wr.heap.size wr W8 := by rw [← HW8.out]; exact (Below.refl _ _).alloc (Nat.le_refl _) _
    obtain ⟨C, hC⟩ : ∃ C : World → Prop, C = fun W => Below W8.heap.size W8 W := ⟨_, rfl⟩
    have CD : Hid (∀ W, C W → C { W with drawn := W.drawn + 1 }) := fun W h => by rw [hC] at h ⊢; exact h.drew
    have CB : Hid (∀ W W', C W → Below W.heap.size W W' → C W') := fun W W' h hb => by rw [hC] at h ⊢; exact h.trans (hb.mono h.size)
    have CE : Hid (∀ W', C W' → Below wr.heap.size wr W') := fun W' h => by rw [hC] at h; exact b8.trans (h.mono b8.size)
    have HCw : Hid (C W8) := by rw [hC]; exact Below.refl _ _
    have N8 : Hid (∀ W', C W' → Nd W' wr.heap.size 0 q.1 na' nc' ka' q.2.list.length kc') := fun W' h => by
      rw [hC, ← HW8.out] at h
      exact box_nd h
    have S8 : Hid (∀ W', C W' → W'.cell? ⟨W.heap.size, 5, none⟩ = some (.slice (some ⟨g, 0, none⟩) p.2.list.length kc2)) := fun W' h => by
      have := HC.out.b1.below (CE.out W' h) HC.out.b1.lt
      exact this.cell 5
    have G8 : Hid (∀ W', C W' → Blk W' g 41 (cs ++ (six q.1 na' nc' ka' q.2.list.length kc' ++ (ss.drop ((k + 1) * 6) ++ sp)))) := fun W' h => hgb.below (CE.out W' h) hgb.lt
    have K8 : Hid (∀ W', C W' → Calls Tryz.prog 74 #[.agg #[.int .i64 q.1.k, .int .i64 q.1.n, .int .i64 q.1.s, .string q.1.t, .slice na' q.1.ns.length nc', .slice ka' q.2.list.length kc']] W' fun e w' => ∃ v, e = .returned v ∧ ∃ na5 nc5 ka5 kc5, v = .agg #[.int .i64 q.1.k, .int .i64 q.1.n, .int .i64 q.1.s, .string q.1.t, .slice na5 q.1.ns.length nc5, .slice ka5 q.2.list.length kc5] ∧ Hid (C w' ∧ ∃ Lq, VlL w' q na5 nc5 ka5 kc5 Lq ∧ (∀ x ∈ Lq, wr.heap.size ≤ x ∧ x < w'.heap.size) ∧ Lq.Nodup)) := fun W' h => by
      have hw1 := CE.out W' h
      have hw0 := HC.out.below.trans (hw1.mono HC.out.below.size)
      refine (HI.out q (wt_kid (List.mem_of_getElem? hq)) (HW.out.kid (List.mem_of_getElem? hq)) (by have h1 := ws_mem (List.mem_of_getElem? hq); have h2 := HS.out; simp only [ws] at h1 h2 ⊢; omega) na' nc' ka' kc' W' (hvq.below hw0)).mono ?_
      rintro e w' ⟨na5, nc5, ka5, kc5, rfl, H5⟩
      obtain ⟨Lq, y1, y2, y3, y4⟩ := H5.out
      have := hw1.size
      exact ⟨_, rfl, na5, nc5, ka5, kc5, rfl, CB.out _ _ h y4, Lq, y1, (fun x hx => ⟨by have := (y2 x hx).1; omega, (y2 x hx).2⟩), y3⟩
    have HQ : Hid (p.2.list[k]? = some q) := hq
    have HG : Hid (W.heap.size + 2 ≤ g ∧ g ∉ Ln ++ L ∧ g < wr.heap.size) := ⟨hg2, hg3, hgb.lt⟩
    have HL : Hid (cs.length = k * 6) := hcl
    have HM : Hid ((cs ++ (six q.1 na' nc' ka' q.2.list.length kc' ++ (ss.drop ((k + 1) * 6) ++ sp))).length = kc2 * 6 ∧ kc2 ≤ maxLen) := ⟨hgl, hgm⟩
    have hkc : p.2.list.length ≤ kc2 := HC.out.capk.le
    obtain ⟨c0, c1, c2, c3, c4, c5⟩ := hnd
    clear hC b8 hvq hsd hgb hcl hg2 hg3 hq hgl hgm
    go_wp2
    generalize hWW : World.alloc wr _ = W9
    obtain rfl : W8 = W9 := by rw [← hWW, ← HW8.out]
    clear hWW HW8 c0 c1 c2 c3 c4 c5
    refine region_calm C 6 (by kernel_rfl) ?_
    have hCp : ∀ p : Prop, (∀ W, C W → p) ↔ p := fun p => ⟨fun h => h _ HCw.out, fun h _ _ => h⟩
    have HCx := CD.out _ HCw.out
    generalize ({ W8 with drawn := W8.drawn + 1 } : World) = W0 at *
    have HC0 : Hid (C W0) := HCx
    clear HCx
    refine seg 3 [0, 1, 2, 3] rfl (by kernel_rfl) whole_blind HC0.out (by kernel_rfl) ?_
    change wpQuiet _ _ _ _ (_ :: _ :: _ :: _ :: []) _
    repeat (first
      | go_big_quiet_skip
      | (go_big_quiet_want
         first
         | (refine q_slice 39 (.tmp 21) rfl W.heap.size 5 rfl _ _ _ (by simp) S8.out ?_
            simp only [Act.put, List.setIfInBounds_toArray, List.set_cons_zero, List.set_cons_succ]
            go_big_quiet_on)
         | (refine q_val (.tmp 4) rfl wr.heap.size 0 rfl _ _ _ _ _ _ N8.out ?_
            simp only [Act.put, List.setIfInBounds_toArray, List.set_cons_zero, List.set_cons_succ]
            go_big_quiet_on)
         | (go_big_quiet_op
            go_big_quiet_on)))
    refine wpQuiet_nil ?_
    refine lone_do (i := 4) 2 rfl (by kernel_rfl) rfl (by rfl) ?_
    intro K hK
    refine oper_calls 74 #[.tmp 24] #[41] rfl #[.agg #[.int .i64 q.1.k, .int .i64 q.1.n, .int .i64 q.1.s, .string q.1.t, .slice na' q.1.ns.length nc', .slice ka' q.2.list.length kc']] (by rw [List.map_toArray]; rfl) entersC _ (K8.out _ HC0.out) ?_
    rintro v w1 ⟨na5, nc5, ka5, kc5, rfl, H5⟩
    refine hK _ _ H5.out.1 ?_
    clear hK K
    simp only [Act.put, List.setIfInBounds_toArray, List.set_cons_zero, List.set_cons_succ]
    refine lone_calm (i := 5) 1 rfl (by kernel_rfl) rfl rfl H5.out.1 ?_
    go_big_quiet_want
    go_big_quiet_op
    go_big_quiet_on
    refine wpQuiet_nil ?_
    refine lone_last (i := 6) 0 rfl rfl (by kernel_rfl) rfl (by rfl) ?_
    intro K hK
    refine oper_row 41 (.tmp 26) (.tmp 25) rfl g (k * 6) 41 cs (six q.1 na' nc' ka' q.2.list.length kc') _ (six q.1 na5 nc5 ka5 q.2.list.length kc5) rfl rfl HL.out (G8.out _ H5.out.1) rfl s25 (six_one _ _ _ _ _ _) ?_
    intro w3 b3 g3
    refine hK _ _ ?_
    clear hK K
    have HC2 : Hid (∃ cs' L', PInv W p na1 nc1 (some ⟨g, 0, none⟩) kc2 ss sp Ln (k + 1) cs' L' w3) := by
      obtain ⟨y0, Lq, y1, y2, y3⟩ := H5.out
      obtain ⟨z1, z2, z3⟩ := HG.out
      exact ⟨_, _, HC.out.step rfl HQ.out z1 z2 z3 (CE.out _ y0) y1 y2 y3 g3 b3 (by have h1 := HM.out.1; simp only [List.length_append, six_length] at h1 ⊢; exact h1) HM.out.2⟩
    clear b3 g3 H5 HC HQ HG HL HM CD CB CE HCw HC0 N8 S8 G8 K8
    refine anyC_done (by kernel_rfl) ⟨rfl, ?_⟩
    simp only [Act.put]
    go_wp2
    go_roundw
    case rel =>
      obtain ⟨cs', L', h⟩ := HC2.out
      exact ⟨k + 1, cs', L', by omega, by go_num, h⟩
    case measure => simp [intOf]; omega
theorem copy_any : ∀ (N : Nat) (p : Vt), wt p ≤ N → WfV p → ws p ≤ 100000 → ∀ (na : Option Addr) (nc : Nat) (ka : Option Addr) (kc : Nat) (W : World), Vl W p na nc ka kc →
    Calls Tryz.prog 74 #[.agg #[.int .i64 p.1.k, .int .i64 p.1.n, .int .i64 p.1.s, .string p.1.t, .slice na p.1.ns.length nc, .slice ka p.2.list.length kc]] W fun e w' => ∃ na' nc' ka' kc', e = .returned (.agg #[.int .i64 p.1.k, .int .i64 p.1.n, .int .i64 p.1.s, .string p.1.t, .slice na' p.1.ns.length nc', .slice ka' p.2.list.length kc']) ∧ Hid (∃ L, VlL w' p na' nc' ka' kc' L ∧ (∀ x ∈ L, W.heap.size ≤ x ∧ x < w'.heap.size) ∧ L.Nodup ∧ Below W.heap.size W w') := by
  intro N
  induction N with
  | zero => intro p hp; exfalso; unfold wt at hp; omega
  | succ N ih =>
    intro p hp hwf hws na nc ka kc W hv
    refine (copy_step p (fun q hq hwq hwsq na nc ka kc W h => ih q (by omega) hwq hwsq na nc ka kc W h) hwf hws na nc ka kc W hv).mono ?_
    rintro e w' ⟨a, b, c, d, he, hh⟩
    obtain ⟨L, y1, y2, y3, y4, _⟩ := hh.out
    exact ⟨a, b, c, d, he, L, y1, y2, y3, y4⟩
end Go.Proofs.YtlefdnjokppibaaGreatDoor.Cpv
