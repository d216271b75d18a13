/-
  block's reader: text, hash.
-/
import Derived.Test.YtlefdnjokppibaaGreatDoorVG27x
import Derived.Test.YtlefdnjokppibaaGreatDoorVG17x
namespace Go.Proofs.YtlefdnjokppibaaGreatDoor.Sh
open Go Go.RowKit Math Mt
set_option linter.unusedVariables false
set_option linter.unusedSimpArgs false
set_option maxHeartbeats 1000000 in
set_option maxRecDepth 8000 in
theorem btext_any : RbC 115 tR (fun s => .string s) (fun s => s.size ≤ 1000000) := by
  intro w0 W r l err h
  have K := bnum_any w0 W r l err h
  clear h
  go_enter Tryz.func115, Tryz.ntmps115
  go_wp2_with fail
  refine K.mono ?_
  clear K
  rintro e w1 ⟨n, l1, e1, rfl, hn, H1⟩
  have K := btake_any n hn w0 w1 r l1 e1 H1.out.1
  go_wp2_with fail
  refine K.mono ?_
  clear K
  rintro e w2 ⟨x, l2, e2, ax, cx, rfl, H2⟩
  obtain ⟨hR, hG, hS, hB, hnil, hxc, _, hO, hL, _⟩ := H2.out
  have hcv := conv_byt (c := cx) (hB.below hR.bl) hO hnil
  have HF : Hid (Rb w0 r w2 l2 e2 ∧ W.grownBy w2 (some r) ∧ Sq tR l err l2 e2 (ofB x)) := ⟨hR, H1.out.2.1.trans hG, sq_bind H1.out.2.2 (sq_bind hS (sq_ret _ _ _))⟩
  have hsz : (ofB x).size ≤ 1000000 := by rw [ofB_size]; exact hL
  clear hR hG hS hB H1 H2 hO hnil
  go_wp2
  go_ret
  exact ⟨ofB x, l2, e2, rfl, hsz, HF.out⟩
section
variable {o : Oper} {a : Act} {w : World} {K : Act → World → Prop} {Q : Exit → Act → World → Prop}
theorem oper_sl (x : Operand) (ho : o.op = .slice 23 x none none none) (g : Nat) (hx : a.eval x = .pointer (some ⟨g, 0, none⟩)) (hK : K (a.put o.dst (.slice (some ⟨g, 0, none⟩) 32 32)) w) : Oper.wp Tryz.prog o a w K Q := by
  unfold Oper.wp
  generalize a.eval = ev at hx
  simp only [execOp, ho, hx]
  go_simp
  exact hK
theorem oper_mv (x : Operand) (ho : o.op = .move x) (v : Value) (hx : a.eval x = v) (hK : K (a.put o.dst v) w) : Oper.wp Tryz.prog o a w K Q := by
  unfold Oper.wp
  simp only [execOp, ho, hx]
  go_simp
  exact hK
theorem oper_cph (d s : Operand) (ho : o.op = .call { callee := .builtin .copy, args := #[d, s], argTypes := #[70, 70] }) (g : Nat) (hd : a.eval d = .slice (some ⟨g, 0, none⟩) 32 32) (hb : Blk w g 23 (nums .u8 zr)) (x : List Nat) (hx : x.length = 32 ∨ x = []) (ax : Option Addr) (cx : Nat) (hs : a.eval s = .slice ax x.length cx) (hy : Byt w ax x)
    (h : ∀ w' v, Blk w' g 23 (nums .u8 (if x = [] then zr else x)) → w.grownBy w' (some g) → K (a.put o.dst v) w') : Oper.wp Tryz.prog o a w K Q := by
  have hsz : (Tryz.prog.info? 5).map (·.size) = some 1 := s5
  rcases hx with hx | rfl
  · have hne : x ≠ [] := by intro e; rw [e] at hx; cases hx
    rw [if_neg hne] at h
    obtain ⟨b, off, rfl, hc⟩ := hy.resolve_left hne
    have hrun := run_copy_row (P := Tryz.prog) w 70 70 o.type 5 g 0 32 32 ⟨b, off, none⟩ x.length cx (nums .u8 zr).toArray 23 (vals x) Tryz.underlying70 hsz hb (by rw [vals_length, hx]; rfl) (fun j v hj => by
      have hjl : j < x.length := by have := (List.getElem?_eq_some_iff.1 hj).1; simpa [vals_length] using this
      rw [vals_get x j hjl] at hj
      rw [Addr.add_lit, hc j hjl]; exact hj) (by simp [vals_length, hx, nums_length, zr]) (vals_one x)
    unfold Oper.wp
    simp only [execOp, ho, resolve, invoke, builtin, Sem.run_bind, Sem.run_pure, Result.andThen_ok, List.map_toArray, List.map_cons, List.map_nil, hd, hs, hrun]
    refine h _ _ ?_ (grown_setRow w g _)
    have e : (List.take 0 (nums .u8 zr).toArray.toList ++ vals x ++ List.drop (0 + (vals x).length) (nums .u8 zr).toArray.toList) = nums .u8 x := by
      rw [List.take_zero, List.nil_append, List.drop_of_length_le (by simp [vals_length, hx, nums_length, zr]), List.append_nil]; rfl
    rw [e]
    exact blk_setRow hb
  · rw [if_pos rfl] at h
    have hrun := run_copy_none (P := Tryz.prog) w 70 70 o.type 5 (some ⟨g, 0, none⟩) ax 32 32 0 cx Tryz.underlying70 hsz rfl
    unfold Oper.wp
    simp only [execOp, ho, resolve, invoke, builtin, Sem.run_bind, Sem.run_pure, Result.andThen_ok, List.map_toArray, List.map_cons, List.map_nil, hd, hs, List.length_nil, hrun]
    exact h _ _ hb (World.grownBy.refl _ _)
end
theorem h32_if {x : List Nat} (hx : x.length = 32 ∨ x = []) (ho : Oct x) : H32 (if x = [] then zr else x) := by
  rcases hx with hx | rfl
  · rw [if_neg (by intro e; rw [e] at hx; cases hx)]; exact ⟨hx, ho⟩
  · rw [if_pos rfl]; exact ⟨rfl, fun x hx => by have := List.eq_of_mem_replicate hx; omega⟩
theorem zHz : (Tryz.prog.info? 23).map (fun i => i.zero.map (·.cells)) = some (some (nums .u8 zr).toArray) := z25
set_option maxHeartbeats 1000000 in
set_option maxRecDepth 8000 in
theorem bhash_any : RbC 95 (takeR 32) (fun h => .agg (nums .u8 h).toArray) H32 := by
  intro w0 W r l err h
  have HR : Hid (Rb w0 r W l err) := h
  clear h
  go_enter Tryz.func95, Tryz.ntmps95
  go_wp2_with (refine al_zero rfl 23 rfl (nums .u8 zr) zHz ?_)
  intro g2 w1 l2 B2 G2
  have hr2 : r < W.heap.size := by obtain ⟨_, _, hb, _⟩ := HR.out.ex; exact hb.lt
  have Z := (Below.refl W.heap.size W).grown G2 (Nat.le_refl _) (by simp)
  clear G2
  go_wp2_with (refine al_zero rfl 23 rfl (nums .u8 zr) zHz ?_)
  intro g3 w2 l3 B3 G3
  have n23 : g2 ≠ g3 := by have := B2.lt; omega
  have B2 := B2.kept G3 (by simp)
  have hg3 : W.heap.size ≤ g3 := Nat.le_trans Z.size l3
  have Z := Z.grown G3 Z.size (by simp)
  clear G3
  obtain ⟨C, hC⟩ : ∃ C : World → Prop, C = fun _ => True := ⟨_, rfl⟩
  have CT : Hid (∀ W, C W) := fun W => by rw [hC]; trivial
  clear hC
  have C0 : Hid (C { w2 with drawn := w2.drawn + 1 }) := CT.out _
  have ZD : Below W.heap.size W { w2 with drawn := w2.drawn + 1 } := Below.drew Z
  have HR0 : Hid (Rb w0 r { w2 with drawn := w2.drawn + 1 } l err) := HR.out.keep (row := none) ⟨ZD.os, ZD.tape, ZD.output, ZD.size, fun x hx _ => ZD.block x hx⟩ (by simp) (HR.out.bl.trans (ZD.mono HR.out.bl.size))
  have B2 : Blk { w2 with drawn := w2.drawn + 1 } g2 23 (nums .u8 zr) := B2
  have B3 : Blk { w2 with drawn := w2.drawn + 1 } g3 23 (nums .u8 zr) := B3
  clear Z
  go_wp2_with fail
  refine region_calm C 3 (by kernel_rfl) ?_
  have hCp : ∀ p : Prop, (∀ W, C W → p) ↔ p := fun p => ⟨fun h => h _ C0.out, fun h _ _ => h⟩
  generalize ({ w2 with drawn := w2.drawn + 1 } : World) = y0 at *
  refine two_do (i := 0) (j := 1) 3 rfl (by kernel_rfl) rfl (by rfl) rfl (by rfl) (fun K hK => ?_) (fun K hK => ?_)
  · refine oper_sl (.tmp 3) rfl g3 rfl ?_
    refine hK _ _ (CT.out _) ?_
    clear hK K
    simp only [Act.put, List.setIfInBounds_toArray, List.set_cons_zero, List.set_cons_succ]
    refine lone_do (i := 1) 2 rfl (by kernel_rfl) rfl (by rfl) ?_
    intro K hK
    refine oper_mv (.tmp 0) rfl (.pointer (some ⟨r, 0, none⟩)) rfl ?_
    refine hK _ _ (CT.out _) ?_
    clear hK K
    simp only [Act.put, List.setIfInBounds_toArray, List.set_cons_zero, List.set_cons_succ]
    refine lone_do (i := 2) 1 rfl (by kernel_rfl) rfl (by rfl) ?_
    intro K hK
    refine oper_call 113 _ _ rfl #[.pointer (some ⟨r, 0, none⟩), .int .i64 32] (by rw [List.map_toArray]; rfl) (enters Tryz.func113 (by kernel_rfl) rfl) (fun v w' => ∃ (x l' : List Nat) (err' : Int) (ax : Option Addr) (cx : Nat), v = .slice ax x.length cx ∧ Hid (Rb w0 r w' l' err' ∧ y0.grownBy w' (some r) ∧ Sq (takeR 32) l err l' err' x ∧ Byt w0 ax x ∧ (ax = none → cx = 0) ∧ x.length ≤ cx ∧ cx ≤ 9223372036854775807 ∧ Oct x ∧ x.length ≤ 1000000 ∧ (err' ≠ 0 → x = []))) ((btake_any 32 (by omega) w0 y0 r l err HR0.out).mono (by rintro e w' ⟨x, l', err', ax, cx, rfl, h⟩; exact ⟨_, rfl, x, l', err', ax, cx, rfl, h⟩)) ?_
    rintro v y1 ⟨x, l1, e1, ax, cx, rfl, H1⟩
    refine hK _ _ (CT.out _) ?_
    clear hK K
    simp only [Act.put, List.setIfInBounds_toArray, List.set_cons_zero, List.set_cons_succ]
    obtain ⟨hR, hG, hS, hB, hnil, hxc, _, hO, hL, hz⟩ := H1.out
    have B2 := B2.kept hG (fun e => by have := Option.some.inj e; omega)
    have B3 := B3.kept hG (fun e => by have := Option.some.inj e; omega)
    have hx32 : x.length = 32 ∨ x = [] := by
      by_cases e0 : e1 = 0
      · left
        rcases hS with ⟨h1, _, h2⟩ | ⟨h1, ⟨h2, _⟩ | ⟨q, _, h3, h4⟩⟩
        · exact absurd (h2 ▸ e0) h1
        · unfold takeR at h2
          split at h2
          · cases h2
          · injection h2 with h2
            injection h2 with h2 _
            rw [← h2, List.length_take]
            omega
        · exact absurd (show q = 0 by omega) h4
      · exact .inr (hz e0)
    have HX : Hid (H32 (if x = [] then zr else x)) := h32_if hx32 hO
    have HS : Hid (Sq (takeR 32) l err l1 e1 (if x = [] then zr else x)) := by
      by_cases e0 : e1 = 0
      · have : x ≠ [] := by
          intro e
          rcases hS with ⟨h1, _, h2⟩ | ⟨h1, ⟨h2, _⟩ | ⟨q, _, h3, h4⟩⟩
          · exact absurd (h2 ▸ e0) h1
          · unfold takeR at h2
            split at h2
            · cases h2
            · injection h2 with h2
              injection h2 with h2 _
              rw [e] at h2
              have := congrArg List.length h2
              simp only [List.length_take, List.length_nil] at this
              omega
          · exact absurd (show q = 0 by omega) h4
        rw [if_neg this]; exact hS
      · exact sq_no hS e0
    refine lone_last (i := 3) 0 rfl rfl (by kernel_rfl) rfl (by rfl) ?_
    intro K hK
    refine oper_cph (.tmp 4) (.tmp 6) rfl g3 rfl B3 x hx32 ax cx rfl (hB.below hR.bl) ?_
    intro y2 v7 B3 G2
    have B2 := B2.kept G2 (fun e => n23 (Option.some.inj e))
    have hG2 : y0.heap.size ≤ y1.heap.size := hG.size
    have HR2 : Hid (Rb w0 r y2 l1 e1) := hR.keep G2 (fun e => by have := Option.some.inj e; omega) (hR.bl.grown G2 hR.bl.size (fun q e => by have := Option.some.inj e; have := HR.out.bl.size; omega))
    have HGG : Hid (W.grownBy y2 (some r) ∨ True) := .inr trivial
    have HKp : Hid (∀ b, b < W.heap.size → b ≠ r → y2.heap[b]? = W.heap[b]?) := fun b h1 h2 => by
      rw [G2.block b (by have := ZD.size; omega) (fun e => by have := Option.some.inj e; omega), hG.block b (by have := ZD.size; omega) (fun e => h2 (Option.some.inj e))]
      exact ZD.block b h1
    have HOs : Hid (y2.os = W.os ∧ y2.tape = W.tape ∧ y2.output = W.output ∧ W.heap.size ≤ y2.heap.size) := ⟨(G2.os.trans hG.os).trans ZD.os, (G2.tape.trans hG.tape).trans ZD.tape, (G2.output.trans hG.output).trans ZD.output, by have := ZD.size; have := G2.size; omega⟩
    obtain ⟨X, hXX⟩ : ∃ X, Hid ((if x = [] then zr else x) = X) := ⟨_, rfl⟩
    rw [hXX.out] at HX HS B3
    clear hR hG hS hB H1 hO hnil hz hXX HGG
    refine hK _ _ ?_
    clear hK K
    refine anyC_done (by kernel_rfl) ⟨rfl, ?_⟩
    simp only [Act.put]
    clear C0 CT hCp HR0
    go_wp2_with (first | (refine ld_w (by rfl) 23 (.tmp 3) rfl g3 0 rfl (nums .u8 X) _ B3.all Tryz.underlying23 rfl (sH HX.out.1) ?_) | (refine st_all rfl 23 (.tmp 2) (.tmp 8) rfl g2 23 (nums .u8 zr) (nums .u8 X) rfl rfl B2 (by rw [nums_length, nums_length, HX.out.1]; rfl) (sH HX.out.1) (nums_one _ _) ?_))
    intro w5 B5 G5
    have HF : Hid (Rb w0 r w5 l1 e1 ∧ W.grownBy w5 (some r)) := by
      have hl := HR.out.bl.size
      refine ⟨HR2.out.keep G5 (fun e => by have := Option.some.inj e; omega) (HR2.out.bl.grown G5 HR2.out.bl.size (fun q e => by have := Option.some.inj e; omega)), ⟨G5.os.trans HOs.out.1, G5.tape.trans HOs.out.2.1, G5.output.trans HOs.out.2.2.1, by have := HOs.out.2.2.2; have := G5.size; omega, fun b h1 h2 => ?_⟩⟩
      rw [G5.block b (by have := HOs.out.2.2.2; omega) (fun e => by have := Option.some.inj e; omega)]
      exact HKp.out b h1 (fun e => h2 (by rw [e]))
    clear G5 HKp HOs HR2
    go_wp2
    (try simp only [Exit.inBlock, Exit.then])
    refine bodyPost_ret (Sh.res_row rfl _ g2 23 _ _ rfl B5 Tryz.underlying23 rfl (sH HX.out.1)) rfl ⟨X, l1, e1, rfl, HX.out, HF.out.1, HF.out.2, HS.out⟩
  · refine oper_mv (.tmp 0) rfl (.pointer (some ⟨r, 0, none⟩)) rfl ?_
    refine hK _ _ (CT.out _) ?_
    clear hK K
    simp only [Act.put, List.setIfInBounds_toArray, List.set_cons_zero, List.set_cons_succ]
    refine two_do (i := 0) (j := 2) 2 rfl (by kernel_rfl) rfl (by rfl) rfl (by rfl) (fun K hK => ?_) (fun K hK => ?_)
    · refine oper_sl (.tmp 3) rfl g3 rfl ?_
      refine hK _ _ (CT.out _) ?_
      clear hK K
      simp only [Act.put, List.setIfInBounds_toArray, List.set_cons_zero, List.set_cons_succ]
      refine lone_do (i := 2) 1 rfl (by kernel_rfl) rfl (by rfl) ?_
      intro K hK
      refine oper_call 113 _ _ rfl #[.pointer (some ⟨r, 0, none⟩), .int .i64 32] (by rw [List.map_toArray]; rfl) (enters Tryz.func113 (by kernel_rfl) rfl) (fun v w' => ∃ (x l' : List Nat) (err' : Int) (ax : Option Addr) (cx : Nat), v = .slice ax x.length cx ∧ Hid (Rb w0 r w' l' err' ∧ y0.grownBy w' (some r) ∧ Sq (takeR 32) l err l' err' x ∧ Byt w0 ax x ∧ (ax = none → cx = 0) ∧ x.length ≤ cx ∧ cx ≤ 9223372036854775807 ∧ Oct x ∧ x.length ≤ 1000000 ∧ (err' ≠ 0 → x = []))) ((btake_any 32 (by omega) w0 y0 r l err HR0.out).mono (by rintro e w' ⟨x, l', err', ax, cx, rfl, h⟩; exact ⟨_, rfl, x, l', err', ax, cx, rfl, h⟩)) ?_
      rintro v y1 ⟨x, l1, e1, ax, cx, rfl, H1⟩
      refine hK _ _ (CT.out _) ?_
      clear hK K
      simp only [Act.put, List.setIfInBounds_toArray, List.set_cons_zero, List.set_cons_succ]
      obtain ⟨hR, hG, hS, hB, hnil, hxc, _, hO, hL, hz⟩ := H1.out
      have B2 := B2.kept hG (fun e => by have := Option.some.inj e; omega)
      have B3 := B3.kept hG (fun e => by have := Option.some.inj e; omega)
      have hx32 : x.length = 32 ∨ x = [] := by
        by_cases e0 : e1 = 0
        · left
          rcases hS with ⟨h1, _, h2⟩ | ⟨h1, ⟨h2, _⟩ | ⟨q, _, h3, h4⟩⟩
          · exact absurd (h2 ▸ e0) h1
          · unfold takeR at h2
            split at h2
            · cases h2
            · injection h2 with h2
              injection h2 with h2 _
              rw [← h2, List.length_take]
              omega
          · exact absurd (show q = 0 by omega) h4
        · exact .inr (hz e0)
      have HX : Hid (H32 (if x = [] then zr else x)) := h32_if hx32 hO
      have HS : Hid (Sq (takeR 32) l err l1 e1 (if x = [] then zr else x)) := by
        by_cases e0 : e1 = 0
        · have : x ≠ [] := by
            intro e
            rcases hS with ⟨h1, _, h2⟩ | ⟨h1, ⟨h2, _⟩ | ⟨q, _, h3, h4⟩⟩
            · exact absurd (h2 ▸ e0) h1
            · unfold takeR at h2
              split at h2
              · cases h2
              · injection h2 with h2
                injection h2 with h2 _
                rw [e] at h2
                have := congrArg List.length h2
                simp only [List.length_take, List.length_nil] at this
                omega
            · exact absurd (show q = 0 by omega) h4
          rw [if_neg this]; exact hS
        · exact sq_no hS e0
      refine lone_last (i := 3) 0 rfl rfl (by kernel_rfl) rfl (by rfl) ?_
      intro K hK
      refine oper_cph (.tmp 4) (.tmp 6) rfl g3 rfl B3 x hx32 ax cx rfl (hB.below hR.bl) ?_
      intro y2 v7 B3 G2
      have B2 := B2.kept G2 (fun e => n23 (Option.some.inj e))
      have hG2 : y0.heap.size ≤ y1.heap.size := hG.size
      have HR2 : Hid (Rb w0 r y2 l1 e1) := hR.keep G2 (fun e => by have := Option.some.inj e; omega) (hR.bl.grown G2 hR.bl.size (fun q e => by have := Option.some.inj e; have := HR.out.bl.size; omega))
      have HGG : Hid (W.grownBy y2 (some r) ∨ True) := .inr trivial
      have HKp : Hid (∀ b, b < W.heap.size → b ≠ r → y2.heap[b]? = W.heap[b]?) := fun b h1 h2 => by
        rw [G2.block b (by have := ZD.size; omega) (fun e => by have := Option.some.inj e; omega), hG.block b (by have := ZD.size; omega) (fun e => h2 (Option.some.inj e))]
        exact ZD.block b h1
      have HOs : Hid (y2.os = W.os ∧ y2.tape = W.tape ∧ y2.output = W.output ∧ W.heap.size ≤ y2.heap.size) := ⟨(G2.os.trans hG.os).trans ZD.os, (G2.tape.trans hG.tape).trans ZD.tape, (G2.output.trans hG.output).trans ZD.output, by have := ZD.size; have := G2.size; omega⟩
      obtain ⟨X, hXX⟩ : ∃ X, Hid ((if x = [] then zr else x) = X) := ⟨_, rfl⟩
      rw [hXX.out] at HX HS B3
      clear hR hG hS hB H1 hO hnil hz hXX HGG
      refine hK _ _ ?_
      clear hK K
      refine anyC_done (by kernel_rfl) ⟨rfl, ?_⟩
      simp only [Act.put]
      clear C0 CT hCp HR0
      go_wp2_with (first | (refine ld_w (by rfl) 23 (.tmp 3) rfl g3 0 rfl (nums .u8 X) _ B3.all Tryz.underlying23 rfl (sH HX.out.1) ?_) | (refine st_all rfl 23 (.tmp 2) (.tmp 8) rfl g2 23 (nums .u8 zr) (nums .u8 X) rfl rfl B2 (by rw [nums_length, nums_length, HX.out.1]; rfl) (sH HX.out.1) (nums_one _ _) ?_))
      intro w5 B5 G5
      have HF : Hid (Rb w0 r w5 l1 e1 ∧ W.grownBy w5 (some r)) := by
        have hl := HR.out.bl.size
        refine ⟨HR2.out.keep G5 (fun e => by have := Option.some.inj e; omega) (HR2.out.bl.grown G5 HR2.out.bl.size (fun q e => by have := Option.some.inj e; omega)), ⟨G5.os.trans HOs.out.1, G5.tape.trans HOs.out.2.1, G5.output.trans HOs.out.2.2.1, by have := HOs.out.2.2.2; have := G5.size; omega, fun b h1 h2 => ?_⟩⟩
        rw [G5.block b (by have := HOs.out.2.2.2; omega) (fun e => by have := Option.some.inj e; omega)]
        exact HKp.out b h1 (fun e => h2 (by rw [e]))
      clear G5 HKp HOs HR2
      go_wp2
      (try simp only [Exit.inBlock, Exit.then])
      refine bodyPost_ret (Sh.res_row rfl _ g2 23 _ _ rfl B5 Tryz.underlying23 rfl (sH HX.out.1)) rfl ⟨X, l1, e1, rfl, HX.out, HF.out.1, HF.out.2, HS.out⟩
    · refine oper_call 113 _ _ rfl #[.pointer (some ⟨r, 0, none⟩), .int .i64 32] (by rw [List.map_toArray]; rfl) (enters Tryz.func113 (by kernel_rfl) rfl) (fun v w' => ∃ (x l' : List Nat) (err' : Int) (ax : Option Addr) (cx : Nat), v = .slice ax x.length cx ∧ Hid (Rb w0 r w' l' err' ∧ y0.grownBy w' (some r) ∧ Sq (takeR 32) l err l' err' x ∧ Byt w0 ax x ∧ (ax = none → cx = 0) ∧ x.length ≤ cx ∧ cx ≤ 9223372036854775807 ∧ Oct x ∧ x.length ≤ 1000000 ∧ (err' ≠ 0 → x = []))) ((btake_any 32 (by omega) w0 y0 r l err HR0.out).mono (by rintro e w' ⟨x, l', err', ax, cx, rfl, h⟩; exact ⟨_, rfl, x, l', err', ax, cx, rfl, h⟩)) ?_
      rintro v y1 ⟨x, l1, e1, ax, cx, rfl, H1⟩
      refine hK _ _ (CT.out _) ?_
      clear hK K
      simp only [Act.put, List.setIfInBounds_toArray, List.set_cons_zero, List.set_cons_succ]
      obtain ⟨hR, hG, hS, hB, hnil, hxc, _, hO, hL, hz⟩ := H1.out
      have B2 := B2.kept hG (fun e => by have := Option.some.inj e; omega)
      have B3 := B3.kept hG (fun e => by have := Option.some.inj e; omega)
      have hx32 : x.length = 32 ∨ x = [] := by
        by_cases e0 : e1 = 0
        · left
          rcases hS with ⟨h1, _, h2⟩ | ⟨h1, ⟨h2, _⟩ | ⟨q, _, h3, h4⟩⟩
          · exact absurd (h2 ▸ e0) h1
          · unfold takeR at h2
            split at h2
            · cases h2
            · injection h2 with h2
              injection h2 with h2 _
              rw [← h2, List.length_take]
              omega
          · exact absurd (show q = 0 by omega) h4
        · exact .inr (hz e0)
      have HX : Hid (H32 (if x = [] then zr else x)) := h32_if hx32 hO
      have HS : Hid (Sq (takeR 32) l err l1 e1 (if x = [] then zr else x)) := by
        by_cases e0 : e1 = 0
        · have : x ≠ [] := by
            intro e
            rcases hS with ⟨h1, _, h2⟩ | ⟨h1, ⟨h2, _⟩ | ⟨q, _, h3, h4⟩⟩
            · exact absurd (h2 ▸ e0) h1
            · unfold takeR at h2
              split at h2
              · cases h2
              · injection h2 with h2
                injection h2 with h2 _
                rw [e] at h2
                have := congrArg List.length h2
                simp only [List.length_take, List.length_nil] at this
                omega
            · exact absurd (show q = 0 by omega) h4
          rw [if_neg this]; exact hS
        · exact sq_no hS e0
      refine lone_do (i := 0) 1 rfl (by kernel_rfl) rfl (by rfl) ?_
      intro K hK
      refine oper_sl (.tmp 3) rfl g3 rfl ?_
      refine hK _ _ (CT.out _) ?_
      clear hK K
      simp only [Act.put, List.setIfInBounds_toArray, List.set_cons_zero, List.set_cons_succ]
      refine lone_last (i := 3) 0 rfl rfl (by kernel_rfl) rfl (by rfl) ?_
      intro K hK
      refine oper_cph (.tmp 4) (.tmp 6) rfl g3 rfl B3 x hx32 ax cx rfl (hB.below hR.bl) ?_
      intro y2 v7 B3 G2
      have B2 := B2.kept G2 (fun e => n23 (Option.some.inj e))
      have hG2 : y0.heap.size ≤ y1.heap.size := hG.size
      have HR2 : Hid (Rb w0 r y2 l1 e1) := hR.keep G2 (fun e => by have := Option.some.inj e; omega) (hR.bl.grown G2 hR.bl.size (fun q e => by have := Option.some.inj e; have := HR.out.bl.size; omega))
      have HGG : Hid (W.grownBy y2 (some r) ∨ True) := .inr trivial
      have HKp : Hid (∀ b, b < W.heap.size → b ≠ r → y2.heap[b]? = W.heap[b]?) := fun b h1 h2 => by
        rw [G2.block b (by have := ZD.size; omega) (fun e => by have := Option.some.inj e; omega), hG.block b (by have := ZD.size; omega) (fun e => h2 (Option.some.inj e))]
        exact ZD.block b h1
      have HOs : Hid (y2.os = W.os ∧ y2.tape = W.tape ∧ y2.output = W.output ∧ W.heap.size ≤ y2.heap.size) := ⟨(G2.os.trans hG.os).trans ZD.os, (G2.tape.trans hG.tape).trans ZD.tape, (G2.output.trans hG.output).trans ZD.output, by have := ZD.size; have := G2.size; omega⟩
      obtain ⟨X, hXX⟩ : ∃ X, Hid ((if x = [] then zr else x) = X) := ⟨_, rfl⟩
      rw [hXX.out] at HX HS B3
      clear hR hG hS hB H1 hO hnil hz hXX HGG
      refine hK _ _ ?_
      clear hK K
      refine anyC_done (by kernel_rfl) ⟨rfl, ?_⟩
      simp only [Act.put]
      clear C0 CT hCp HR0
      go_wp2_with (first | (refine ld_w (by rfl) 23 (.tmp 3) rfl g3 0 rfl (nums .u8 X) _ B3.all Tryz.underlying23 rfl (sH HX.out.1) ?_) | (refine st_all rfl 23 (.tmp 2) (.tmp 8) rfl g2 23 (nums .u8 zr) (nums .u8 X) rfl rfl B2 (by rw [nums_length, nums_length, HX.out.1]; rfl) (sH HX.out.1) (nums_one _ _) ?_))
      intro w5 B5 G5
      have HF : Hid (Rb w0 r w5 l1 e1 ∧ W.grownBy w5 (some r)) := by
        have hl := HR.out.bl.size
        refine ⟨HR2.out.keep G5 (fun e => by have := Option.some.inj e; omega) (HR2.out.bl.grown G5 HR2.out.bl.size (fun q e => by have := Option.some.inj e; omega)), ⟨G5.os.trans HOs.out.1, G5.tape.trans HOs.out.2.1, G5.output.trans HOs.out.2.2.1, by have := HOs.out.2.2.2; have := G5.size; omega, fun b h1 h2 => ?_⟩⟩
        rw [G5.block b (by have := HOs.out.2.2.2; omega) (fun e => by have := Option.some.inj e; omega)]
        exact HKp.out b h1 (fun e => h2 (by rw [e]))
      clear G5 HKp HOs HR2
      go_wp2
      (try simp only [Exit.inBlock, Exit.then])
      refine bodyPost_ret (Sh.res_row rfl _ g2 23 _ _ rfl B5 Tryz.underlying23 rfl (sH HX.out.1)) rfl ⟨X, l1, e1, rfl, HX.out, HF.out.1, HF.out.2, HS.out⟩
end Go.Proofs.YtlefdnjokppibaaGreatDoor.Sh
