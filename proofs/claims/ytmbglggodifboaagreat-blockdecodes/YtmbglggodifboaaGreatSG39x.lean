import Derived.Test.YtmbglggodifboaaGreatSG38x
import Derived.Test.YtmbglggodifboaaGreatSG32x
set_option maxHeartbeats 1000000
set_option maxRecDepth 8000
set_option linter.unusedSimpArgs false
set_option linter.unusedVariables false
namespace Go.Proofs.YtmbglggodifboaaGreat.Sh
open Go Go.RowKit Math Mt
theorem rraw_32 (w0 W : World) (r : Nat) (l : List Nat) (err : Int) (h : Rc w0 r W l err) :
 Calls Tryz.prog 47 #[.pointer (some ⟨r, 0, none⟩), .int .i64 32] W fun e w' => ∃ v, e = .returned v /\ ∃ (x l' : List Nat) (err' : Int) (ax : Option Addr) (cx : Nat), v = .slice ax x.length cx /\ Hid (Rc w0 r w' l' err' /\ W.grownBy w' (some r) /\ Sq (takeR 32) l err l' err' x /\ Byt w' ax x /\ H32 x) := by
 refine (rraw_any 32 (by omega) w0 W r l err h).mono ?_
 rintro e w' ⟨x, l', err', ax, cx, rfl, H⟩
 obtain ⟨h1, h2, h3, h4, h5, h6, h7, h8, h9, h10, _⟩ := H.out
 refine ⟨_, rfl, x, l', err', ax, cx, rfl, h1, h2, h3, h4, ⟨?_, h8⟩⟩
 by_cases e0 : err' = 0
 . exact h10 e0
 . rw [h9 e0]; rfl
theorem rhsh_any : RcC 28 (takeR 32) (fun h => .agg (nums .u8 h).toArray) H32 := by
 intro w0 W r l err h
 have HR : Hid (Rc w0 r W l err) := h
 clear h
 go_enter Tryz.func28, Tryz.ntmps28
 go_wp2_with (refine al_zero rfl 23 rfl (nums .u8 zr) zHz ?_)
 intro g2 w1 l2 B2 G2
 have hr2 : r < W.heap.size := by obtain ⟨_, _, hb, _⟩ := HR.out.ex; exact hb.lt
 have Z := (Below.refl W.heap.size W).grown G2 (Nat.le_refl _) (by simp)
 clear G2
 go_wp2_with (refine al_zero rfl 23 rfl (nums .u8 zr) zHz ?_)
 intro g3 w2 l3 B3 G3
 have n23 : g2 ≠ g3 := by have := B2.lt; omega
 have B2 := B2.kept G3 (by simp)
 have hg3 : W.heap.size <= g3 := Nat.le_trans Z.size l3
 have Z := Z.grown G3 Z.size (by simp)
 clear G3
 obtain ⟨C, hC⟩ : ∃ C : World -> Prop, C = fun _ => True := ⟨_, rfl⟩
 have CT : Hid (∀ W, C W) := fun W => by rw [hC]; trivial
 clear hC
 have C0 : Hid (C { w2 with drawn := w2.drawn + 1 }) := CT.out _
 have ZD : Below W.heap.size W { w2 with drawn := w2.drawn + 1 } := Below.drew Z
 have HR0 : Hid (Rc w0 r { w2 with drawn := w2.drawn + 1 } l err) := HR.out.keep (row := none) ⟨ZD.os, ZD.tape, ZD.output, ZD.size, fun x hx _ => ZD.block x hx⟩ (by simp) (HR.out.bl.trans (ZD.mono HR.out.bl.size))
 have B2 : Blk { w2 with drawn := w2.drawn + 1 } g2 23 (nums .u8 zr) := B2
 have B3 : Blk { w2 with drawn := w2.drawn + 1 } g3 23 (nums .u8 zr) := B3
 clear Z
 go_wp2_with fail
 refine region_calm C 3 (by kernel_rfl) ?_
 have hCp := cpo C0.out
 generalize ({ w2 with drawn := w2.drawn + 1 } : World) = y0 at *
 refine two_do (i := 0) (j := 1) 3 rfl (by kernel_rfl) rfl (by rfl) rfl (by rfl) (fun K hK => ?_) (fun K hK => ?_)
 . refine oper_sl (.tmp 3) rfl g3 rfl ?_
   refine hK _ _ (CT.out _) ?_
   clear hK K
   simp only [Act.put, pu]
   refine lone_do (i := 1) 2 rfl (by kernel_rfl) rfl (by rfl) ?_
   intro K hK
   refine oper_mv (.tmp 0) rfl (.pointer (some ⟨r, 0, none⟩)) rfl ?_
   refine hK _ _ (CT.out _) ?_
   clear hK K
   simp only [Act.put, pu]
   refine lone_do (i := 2) 1 rfl (by kernel_rfl) rfl (by rfl) ?_
   intro K hK
   refine oper_call 47 _ _ rfl #[.pointer (some ⟨r, 0, none⟩), .int .i64 32] (by rw [List.map_toArray]; rfl) (enters Tryz.func47 (by kernel_rfl) rfl) (fun v w' => ∃ (x l' : List Nat) (err' : Int) (ax : Option Addr) (cx : Nat), v = .slice ax x.length cx /\ Hid (Rc w0 r w' l' err' /\ y0.grownBy w' (some r) /\ Sq (takeR 32) l err l' err' x /\ Byt w' ax x /\ H32 x)) (rraw_32 w0 y0 r l err HR0.out) ?_
   rintro v y1 ⟨x, l1, e1, ax, cx, rfl, H1⟩
   refine hK _ _ (CT.out _) ?_
   clear hK K
   simp only [Act.put, pu]
   obtain ⟨hR, hG, hS, hB, hX⟩ := H1.out
   have B2 := B2.kept hG (fun e => by have := Option.some.inj e; omega)
   have B3 := B3.kept hG (fun e => by have := Option.some.inj e; omega)
   have HX : Hid (H32 x) := hX
   have HS : Hid (Sq (takeR 32) l err l1 e1 x) := hS
   have hxn : ¬ x = [] := fun e => by have := hX.1; rw [e] at this; cases this
   refine lone_last (i := 3) 0 rfl rfl (by kernel_rfl) rfl (by rfl) ?_
   intro K hK
   refine oper_cph (.tmp 4) (.tmp 6) rfl g3 rfl B3 x (.inl hX.1) ax cx rfl hB ?_
   intro y2 v7 B3 G2
   rw [if_neg hxn] at B3
   have B2 := B2.kept G2 (fun e => n23 (Option.some.inj e))
   have hG2 : y0.heap.size <= y1.heap.size := hG.size
   have HR2 : Hid (Rc w0 r y2 l1 e1) := hR.keep G2 (fun e => by have := Option.some.inj e; omega) (hR.bl.grown G2 hR.bl.size (fun q e => by have := Option.some.inj e; have := HR.out.bl.size; omega))
   have HKp : Hid (∀ b, b < W.heap.size -> b ≠ r -> y2.heap[b]? = W.heap[b]?) := fun b h1 h2 => by
    rw [G2.block b (by have := ZD.size; omega) (fun e => by have := Option.some.inj e; omega), hG.block b (by have := ZD.size; omega) (fun e => h2 (Option.some.inj e))]
    exact ZD.block b h1
   have HOs : Hid (y2.os = W.os /\ y2.tape = W.tape /\ y2.output = W.output /\ W.heap.size <= y2.heap.size) := ⟨(G2.os.trans hG.os).trans ZD.os, (G2.tape.trans hG.tape).trans ZD.tape, (G2.output.trans hG.output).trans ZD.output, by have := ZD.size; have := G2.size; omega⟩
   clear hR hG hS hB H1 hX hxn
   refine hK _ _ ?_
   clear hK K
   refine anyC_done (by kernel_rfl) ⟨rfl, ?_⟩
   simp only [Act.put]
   clear C0 CT hCp HR0
   go_wp2_with (first | (refine ld_w (by rfl) 23 (.tmp 3) rfl g3 0 rfl (nums .u8 x) _ B3.all Tryz.underlying23 rfl (sH HX.out.1) ?_) | (refine st_all rfl 23 (.tmp 2) (.tmp 8) rfl g2 23 (nums .u8 zr) (nums .u8 x) rfl rfl B2 (by rw [nums_length, nums_length, HX.out.1]; rfl) (sH HX.out.1) (nums_one _ _) ?_))
   intro w5 B5 G5
   have HF : Hid (Rc w0 r w5 l1 e1 /\ W.grownBy w5 (some r)) := by
    have hl := HR.out.bl.size
    refine ⟨HR2.out.keep G5 (fun e => by have := Option.some.inj e; omega) (HR2.out.bl.grown G5 HR2.out.bl.size (fun q e => by have := Option.some.inj e; omega)), ⟨G5.os.trans HOs.out.1, G5.tape.trans HOs.out.2.1, G5.output.trans HOs.out.2.2.1, by have := HOs.out.2.2.2; have := G5.size; omega, fun b h1 h2 => ?_⟩⟩
    rw [G5.block b (by have := HOs.out.2.2.2; omega) (fun e => by have := Option.some.inj e; omega)]
    exact HKp.out b h1 (fun e => h2 (by rw [e]))
   clear G5 HKp HOs HR2
   go_wp2
   (try simp only [Exit.inBlock, Exit.then])
   refine bodyPost_ret (Sh.res_row rfl _ g2 23 _ _ rfl B5 Tryz.underlying23 rfl (sH HX.out.1)) rfl ⟨x, l1, e1, rfl, HX.out, HF.out.1, HF.out.2, HS.out⟩
 . refine oper_mv (.tmp 0) rfl (.pointer (some ⟨r, 0, none⟩)) rfl ?_
   refine hK _ _ (CT.out _) ?_
   clear hK K
   simp only [Act.put, pu]
   refine two_do (i := 0) (j := 2) 2 rfl (by kernel_rfl) rfl (by rfl) rfl (by rfl) (fun K hK => ?_) (fun K hK => ?_)
   . refine oper_sl (.tmp 3) rfl g3 rfl ?_
     refine hK _ _ (CT.out _) ?_
     clear hK K
     simp only [Act.put, pu]
     refine lone_do (i := 2) 1 rfl (by kernel_rfl) rfl (by rfl) ?_
     intro K hK
     refine oper_call 47 _ _ rfl #[.pointer (some ⟨r, 0, none⟩), .int .i64 32] (by rw [List.map_toArray]; rfl) (enters Tryz.func47 (by kernel_rfl) rfl) (fun v w' => ∃ (x l' : List Nat) (err' : Int) (ax : Option Addr) (cx : Nat), v = .slice ax x.length cx /\ Hid (Rc w0 r w' l' err' /\ y0.grownBy w' (some r) /\ Sq (takeR 32) l err l' err' x /\ Byt w' ax x /\ H32 x)) (rraw_32 w0 y0 r l err HR0.out) ?_
     rintro v y1 ⟨x, l1, e1, ax, cx, rfl, H1⟩
     refine hK _ _ (CT.out _) ?_
     clear hK K
     simp only [Act.put, pu]
     obtain ⟨hR, hG, hS, hB, hX⟩ := H1.out
     have B2 := B2.kept hG (fun e => by have := Option.some.inj e; omega)
     have B3 := B3.kept hG (fun e => by have := Option.some.inj e; omega)
     have HX : Hid (H32 x) := hX
     have HS : Hid (Sq (takeR 32) l err l1 e1 x) := hS
     have hxn : ¬ x = [] := fun e => by have := hX.1; rw [e] at this; cases this
     refine lone_last (i := 3) 0 rfl rfl (by kernel_rfl) rfl (by rfl) ?_
     intro K hK
     refine oper_cph (.tmp 4) (.tmp 6) rfl g3 rfl B3 x (.inl hX.1) ax cx rfl hB ?_
     intro y2 v7 B3 G2
     rw [if_neg hxn] at B3
     have B2 := B2.kept G2 (fun e => n23 (Option.some.inj e))
     have hG2 : y0.heap.size <= y1.heap.size := hG.size
     have HR2 : Hid (Rc w0 r y2 l1 e1) := hR.keep G2 (fun e => by have := Option.some.inj e; omega) (hR.bl.grown G2 hR.bl.size (fun q e => by have := Option.some.inj e; have := HR.out.bl.size; omega))
     have HKp : Hid (∀ b, b < W.heap.size -> b ≠ r -> y2.heap[b]? = W.heap[b]?) := fun b h1 h2 => by
      rw [G2.block b (by have := ZD.size; omega) (fun e => by have := Option.some.inj e; omega), hG.block b (by have := ZD.size; omega) (fun e => h2 (Option.some.inj e))]
      exact ZD.block b h1
     have HOs : Hid (y2.os = W.os /\ y2.tape = W.tape /\ y2.output = W.output /\ W.heap.size <= y2.heap.size) := ⟨(G2.os.trans hG.os).trans ZD.os, (G2.tape.trans hG.tape).trans ZD.tape, (G2.output.trans hG.output).trans ZD.output, by have := ZD.size; have := G2.size; omega⟩
     clear hR hG hS hB H1 hX hxn
     refine hK _ _ ?_
     clear hK K
     refine anyC_done (by kernel_rfl) ⟨rfl, ?_⟩
     simp only [Act.put]
     clear C0 CT hCp HR0
     go_wp2_with (first | (refine ld_w (by rfl) 23 (.tmp 3) rfl g3 0 rfl (nums .u8 x) _ B3.all Tryz.underlying23 rfl (sH HX.out.1) ?_) | (refine st_all rfl 23 (.tmp 2) (.tmp 8) rfl g2 23 (nums .u8 zr) (nums .u8 x) rfl rfl B2 (by rw [nums_length, nums_length, HX.out.1]; rfl) (sH HX.out.1) (nums_one _ _) ?_))
     intro w5 B5 G5
     have HF : Hid (Rc w0 r w5 l1 e1 /\ W.grownBy w5 (some r)) := by
      have hl := HR.out.bl.size
      refine ⟨HR2.out.keep G5 (fun e => by have := Option.some.inj e; omega) (HR2.out.bl.grown G5 HR2.out.bl.size (fun q e => by have := Option.some.inj e; omega)), ⟨G5.os.trans HOs.out.1, G5.tape.trans HOs.out.2.1, G5.output.trans HOs.out.2.2.1, by have := HOs.out.2.2.2; have := G5.size; omega, fun b h1 h2 => ?_⟩⟩
      rw [G5.block b (by have := HOs.out.2.2.2; omega) (fun e => by have := Option.some.inj e; omega)]
      exact HKp.out b h1 (fun e => h2 (by rw [e]))
     clear G5 HKp HOs HR2
     go_wp2
     (try simp only [Exit.inBlock, Exit.then])
     refine bodyPost_ret (Sh.res_row rfl _ g2 23 _ _ rfl B5 Tryz.underlying23 rfl (sH HX.out.1)) rfl ⟨x, l1, e1, rfl, HX.out, HF.out.1, HF.out.2, HS.out⟩
   . refine oper_call 47 _ _ rfl #[.pointer (some ⟨r, 0, none⟩), .int .i64 32] (by rw [List.map_toArray]; rfl) (enters Tryz.func47 (by kernel_rfl) rfl) (fun v w' => ∃ (x l' : List Nat) (err' : Int) (ax : Option Addr) (cx : Nat), v = .slice ax x.length cx /\ Hid (Rc w0 r w' l' err' /\ y0.grownBy w' (some r) /\ Sq (takeR 32) l err l' err' x /\ Byt w' ax x /\ H32 x)) (rraw_32 w0 y0 r l err HR0.out) ?_
     rintro v y1 ⟨x, l1, e1, ax, cx, rfl, H1⟩
     refine hK _ _ (CT.out _) ?_
     clear hK K
     simp only [Act.put, pu]
     obtain ⟨hR, hG, hS, hB, hX⟩ := H1.out
     have B2 := B2.kept hG (fun e => by have := Option.some.inj e; omega)
     have B3 := B3.kept hG (fun e => by have := Option.some.inj e; omega)
     have HX : Hid (H32 x) := hX
     have HS : Hid (Sq (takeR 32) l err l1 e1 x) := hS
     have hxn : ¬ x = [] := fun e => by have := hX.1; rw [e] at this; cases this
     refine lone_do (i := 0) 1 rfl (by kernel_rfl) rfl (by rfl) ?_
     intro K hK
     refine oper_sl (.tmp 3) rfl g3 rfl ?_
     refine hK _ _ (CT.out _) ?_
     clear hK K
     simp only [Act.put, pu]
     refine lone_last (i := 3) 0 rfl rfl (by kernel_rfl) rfl (by rfl) ?_
     intro K hK
     refine oper_cph (.tmp 4) (.tmp 6) rfl g3 rfl B3 x (.inl hX.1) ax cx rfl hB ?_
     intro y2 v7 B3 G2
     rw [if_neg hxn] at B3
     have B2 := B2.kept G2 (fun e => n23 (Option.some.inj e))
     have hG2 : y0.heap.size <= y1.heap.size := hG.size
     have HR2 : Hid (Rc w0 r y2 l1 e1) := hR.keep G2 (fun e => by have := Option.some.inj e; omega) (hR.bl.grown G2 hR.bl.size (fun q e => by have := Option.some.inj e; have := HR.out.bl.size; omega))
     have HKp : Hid (∀ b, b < W.heap.size -> b ≠ r -> y2.heap[b]? = W.heap[b]?) := fun b h1 h2 => by
      rw [G2.block b (by have := ZD.size; omega) (fun e => by have := Option.some.inj e; omega), hG.block b (by have := ZD.size; omega) (fun e => h2 (Option.some.inj e))]
      exact ZD.block b h1
     have HOs : Hid (y2.os = W.os /\ y2.tape = W.tape /\ y2.output = W.output /\ W.heap.size <= y2.heap.size) := ⟨(G2.os.trans hG.os).trans ZD.os, (G2.tape.trans hG.tape).trans ZD.tape, (G2.output.trans hG.output).trans ZD.output, by have := ZD.size; have := G2.size; omega⟩
     clear hR hG hS hB H1 hX hxn
     refine hK _ _ ?_
     clear hK K
     refine anyC_done (by kernel_rfl) ⟨rfl, ?_⟩
     simp only [Act.put]
     clear C0 CT hCp HR0
     go_wp2_with (first | (refine ld_w (by rfl) 23 (.tmp 3) rfl g3 0 rfl (nums .u8 x) _ B3.all Tryz.underlying23 rfl (sH HX.out.1) ?_) | (refine st_all rfl 23 (.tmp 2) (.tmp 8) rfl g2 23 (nums .u8 zr) (nums .u8 x) rfl rfl B2 (by rw [nums_length, nums_length, HX.out.1]; rfl) (sH HX.out.1) (nums_one _ _) ?_))
     intro w5 B5 G5
     have HF : Hid (Rc w0 r w5 l1 e1 /\ W.grownBy w5 (some r)) := by
      have hl := HR.out.bl.size
      refine ⟨HR2.out.keep G5 (fun e => by have := Option.some.inj e; omega) (HR2.out.bl.grown G5 HR2.out.bl.size (fun q e => by have := Option.some.inj e; omega)), ⟨G5.os.trans HOs.out.1, G5.tape.trans HOs.out.2.1, G5.output.trans HOs.out.2.2.1, by have := HOs.out.2.2.2; have := G5.size; omega, fun b h1 h2 => ?_⟩⟩
      rw [G5.block b (by have := HOs.out.2.2.2; omega) (fun e => by have := Option.some.inj e; omega)]
      exact HKp.out b h1 (fun e => h2 (by rw [e]))
     clear G5 HKp HOs HR2
     go_wp2
     (try simp only [Exit.inBlock, Exit.then])
     refine bodyPost_ret (Sh.res_row rfl _ g2 23 _ _ rfl B5 Tryz.underlying23 rfl (sH HX.out.1)) rfl ⟨x, l1, e1, rfl, HX.out, HF.out.1, HF.out.2, HS.out⟩
end Go.Proofs.YtmbglggodifboaaGreat.Sh
namespace Go.Proofs.YtmbglggodifboaaGreat
open Go.RowKit Math
theorem Rq.keep {w0 : World} {r : Nat} {w w' : World} {l : List Nat} {e : Int} {row : Option Nat} (h : Rq w0 r w l e) (hne : some r ≠ row) (g : w.grownBy w' row) (hr : ∀ x, row = some x -> w0.heap.size <= x) : Rq w0 r w' l e := by
 obtain ⟨a, c, h1, h2⟩ := h.ex
 exact ⟨⟨a, c, h1.kept g hne, h2⟩, h.bl.grown g h.bl.size hr, h.lt, h.oct, h.len⟩
structure Ro2 (w0 : World) (r : Nat) (W wr : World) (l : List Nat) (e : Int) : Prop where
 rq : Rq w0 r wr l e
 gr : W.grownBy wr (some r)
theorem Ro2.trans {w0 : World} {r : Nat} {W w1 w2 : World} {l l' : List Nat} {e e' : Int} (h : Ro2 w0 r W w1 l e) (k : Ro2 w0 r w1 w2 l' e') : Ro2 w0 r W w2 l' e' := ⟨k.rq, h.gr.trans k.gr⟩
theorem Ro2.then {w0 : World} {r : Nat} {W w1 w2 : World} {l : List Nat} {e : Int} (h : Ro2 w0 r W w1 l e) (k : Below w1.heap.size w1 w2) : Ro2 w0 r W w2 l e := by
 have g : w1.grownBy w2 none := ⟨k.os, k.tape, k.output, k.size, fun x hx _ => k.block x hx⟩
 exact ⟨h.rq.keep (by simp) g (fun x c => by cases c), ⟨k.os.trans h.gr.os, k.tape.trans h.gr.tape, k.output.trans h.gr.output, Nat.le_trans h.gr.size k.size, fun x hx hne => (k.block x (Nat.lt_of_lt_of_le hx h.gr.size)).trans (h.gr.block x hx hne)⟩⟩
structure NJ (B g6 g8 r : Nat) (w0 : World) (W : World) (k : Int) (wr : World) (l : List Nat) (e : Int) (ns : List ByteArray) (f : Fo) (vn vk : Value) (cs : List Value) (Lf : List Nat) : Prop where
 ro : Ro2 w0 r W wr l e
 b6 : Blk wr g6 48 zer
 b8 : Blk wr g8 48 [.int .i64 k, .int .i64 0, .int .i64 0, .string ⟨#[]⟩, vn, vk]
 nm : wr.ownsRow B 9 1 vn ns.length (ns.map Value.string)
 kd : wr.ownsRow B 48 6 vk f.list.length cs
 lay : Lay wr f cs Lf
 rng : ∀ x ∈ Lf, B <= x /\ x < wr.heap.size /\ vn.ownBlock ≠ some x /\ vk.ownBlock ≠ some x
 nk : ∀ x, vn.ownBlock = some x -> vk.ownBlock ≠ some x
 sz : B <= wr.heap.size
 w0W : w0.heap.size <= W.heap.size
section
variable {B g6 g8 r : Nat} {w0 : World} {W : World} {k : Int} {wr w' : World} {l l' : List Nat} {e e' : Int} {ns : List ByteArray} {f : Fo} {vn vk : Value} {cs : List Value} {Lf : List Nat}
theorem NJ.read (h : NJ B g6 g8 r w0 W k wr l e ns f vn vk cs Lf) (o : Od W r g6 g8 B) (k' : Ro2 w0 r wr w' l' e') : NJ B g6 g8 r w0 W k w' l' e' ns f vn vk cs Lf := by
 have o1 := o.r
 have o2 := o.l6
 have o3 := o.l8
 have o4 := o.lB
 have o5 := h.ro.rq.bl.size
 have o6 := h.w0W
 refine ⟨h.ro.trans k', h.b6.kept k'.gr (by intro c; injection c with c; omega), h.b8.kept k'.gr (by intro c; injection c with c; omega), World.ownsRow.kept h.nm k'.gr (.inr fun c => ?_), World.ownsRow.kept h.kd k'.gr (.inr fun c => ?_), Lay.keep _ h.lay fun x hx => ?_, fun x hx => ?_, h.nk, Nat.le_trans h.sz k'.gr.size, h.w0W⟩
 . have := (World.ownsRow.lt h.nm _ c).1
   omega
 . have := (World.ownsRow.lt h.kd _ c).1
   omega
 . have := h.rng x hx
   exact k'.gr.block x this.2.1 (by intro c; injection c with c; omega)
 . have := h.rng x hx
   have := k'.gr.size
   exact ⟨by omega, by omega, (h.rng x hx).2.2⟩
theorem NJ.below (h : NJ B g6 g8 r w0 W k wr l e ns f vn vk cs Lf) (g : Below wr.heap.size wr w') : NJ B g6 g8 r w0 W k w' l e ns f vn vk cs Lf := by
 have g' : wr.grownBy w' none := ⟨g.os, g.tape, g.output, g.size, fun x hx _ => g.block x hx⟩
 refine ⟨h.ro.then g, h.b6.below g h.b6.lt, h.b8.below g h.b8.lt, World.ownsRow.kept h.nm g' (by simpa using Classical.em _), World.ownsRow.kept h.kd g' (by simpa using Classical.em _), Lay.keep _ h.lay fun x hx => g.block x (h.rng x hx).2.1, fun x hx => ?_, h.nk, Nat.le_trans h.sz g.size, h.w0W⟩
 have := h.rng x hx
 have := g.size
 exact ⟨by omega, by omega, (h.rng x hx).2.2⟩
theorem ro2_grown {w1 : World} {row : Option Nat} (h : Ro2 w0 r W wr l e) (g : wr.grownBy w1 row) (hr : ∀ x, row = some x -> x ≠ r /\ W.heap.size <= x /\ w0.heap.size <= x) : Ro2 w0 r W w1 l e := by
 refine ⟨h.rq.keep (fun c => (hr r c.symm).1 rfl) g fun x c => (hr x c).2.2, ⟨g.os.trans h.gr.os, g.tape.trans h.gr.tape, g.output.trans h.gr.output, Nat.le_trans h.gr.size g.size, fun x hx hne => (g.block x (Nat.lt_of_lt_of_le hx h.gr.size) ?_).trans (h.gr.block x hx hne)⟩⟩
 intro c
 have := (hr x c.symm).2.1
 omega
theorem NJ.name {w1 w2 w3 : World} {vn' : Value} {s : ByteArray} (h : NJ B g6 g8 r w0 W k wr l e ns f vn vk cs Lf) (o : Od W r g6 g8 B) (hb : Below wr.heap.size wr w1) (g : w1.grownBy w2 vn.ownBlock) (hn : w2.ownsRow B 9 1 vn' (ns.length + 1) (ns.map Value.string ++ [.string s])) (hat : vn'.ownBlock = vn.ownBlock ∨ vn'.ownBlock = some w1.heap.size)
 (hs : Blk w3 g8 48 [.int .i64 k, .int .i64 0, .int .i64 0, .string ⟨#[]⟩, vn', vk]) (g3 : w2.grownBy w3 (some g8)) : NJ B g6 g8 r w0 W k w3 l e (ns ++ [s]) f vn' vk cs Lf := by
 have o1 := o.r
 have o2 := o.l6
 have o3 := o.l8
 have o4 := o.lB
 have o5 := h.ro.rq.bl.size
 have o6 := h.w0W
 have h1 := h.below hb
 have hsz := h.ro.gr.size
 have hsz1 := hb.size
 have ln := fun x c => World.ownsRow.lt h1.nm x c
 have lk := fun x c => World.ownsRow.lt h1.kd x c
 have ro2 := ro2_grown h1.ro g (fun x c => by have := ln x c; omega)
 have ro3 := ro2_grown ro2 g3 (fun x c => by injection c with c; omega)
 have ln' := fun x c => World.ownsRow.lt hn x c
 refine ⟨ro3, (h1.b6.kept g fun c => ?_).kept g3 (by intro c; injection c with c; omega), hs, ?_, World.ownsRow.kept (World.ownsRow.kept h1.kd g ?_) g3 (.inr fun c => ?_), Lay.keep _ h1.lay fun x hx => ?_, fun x hx => ?_, fun x c => ?_, Nat.le_trans h1.sz (Nat.le_trans g.size g3.size), h.w0W⟩
 . have := ln _ c.symm
   omega
 . rw [List.length_append, List.map_append]
   exact World.ownsRow.kept hn g3 (.inr fun c => by have := ln' _ c; omega)
 . cases hv : vk.ownBlock with
   | none => exact .inl rfl
   | some x => exact .inr fun c => h1.nk x c.symm hv
 . have := lk _ c
   omega
 . obtain ⟨a1, a2, a3, a4⟩ := h1.rng x hx
   rw [g3.block x (Nat.lt_of_lt_of_le a2 g.size) (by intro c; injection c with c; omega)]
   exact g.block x a2 (fun c => a3 c.symm)
 . obtain ⟨a1, a2, a3, a4⟩ := h1.rng x hx
   have := g.size
   have := g3.size
   refine ⟨a1, by omega, ?_, a4⟩
   rcases hat with c | c
   . rw [c]; exact a3
   . rw [c]; intro c; injection c with c; omega
 . rcases hat with c2 | c2
   . exact h1.nk x (by rw [<- c2]; exact c)
   . intro c3
     rw [c2] at c
     injection c with c
     have := lk x c3
     omega
theorem NJ.kid {w1 w2 w3 : World} {vk' : Value} {q : Vt} {na : Option Addr} {nc : Nat} {ka : Option Addr} {kc : Nat} {Lq : List Nat} (h : NJ B g6 g8 r w0 W k wr l e ns f vn vk cs Lf) (o : Od W r g6 g8 B) (hv : VlL wr q na nc ka kc Lq) (hr : ∀ x ∈ Lq, B <= x /\ x < wr.heap.size /\ vn.ownBlock ≠ some x /\ vk.ownBlock ≠ some x)
 (hb : Below wr.heap.size wr w1) (g : w1.grownBy w2 vk.ownBlock) (hn : w2.ownsRow B 48 6 vk' (f.list.length + 1) (cs ++ six q.1 na nc ka q.2.list.length kc)) (hat : vk'.ownBlock = vk.ownBlock ∨ vk'.ownBlock = some w1.heap.size)
 (hs : Blk w3 g8 48 [.int .i64 k, .int .i64 0, .int .i64 0, .string ⟨#[]⟩, vn, vk']) (g3 : w2.grownBy w3 (some g8)) : NJ B g6 g8 r w0 W k w3 l e ns (f.snoc q) vn vk' (cs ++ six q.1 na nc ka q.2.list.length kc) (Lf ++ Lq) := by
 have o1 := o.r
 have o2 := o.l6
 have o3 := o.l8
 have o4 := o.lB
 have o5 := h.ro.rq.bl.size
 have o6 := h.w0W
 have h1 := h.below hb
 have hsz := h.ro.gr.size
 have hsz1 := hb.size
 have ln := fun x c => World.ownsRow.lt h1.nm x c
 have lk := fun x c => World.ownsRow.lt h1.kd x c
 have ro2 := ro2_grown h1.ro g (fun x c => by have := lk x c; omega)
 have ro3 := ro2_grown ro2 g3 (fun x c => by injection c with c; omega)
 have lk' := fun x c => World.ownsRow.lt hn x c
 have kp : ∀ x, B <= x -> x < w1.heap.size -> vk.ownBlock ≠ some x -> w3.heap[x]? = w1.heap[x]? := fun x a1 a2 a4 => by
  rw [g3.block x (Nat.lt_of_lt_of_le a2 g.size) (by intro c; injection c with c; omega)]
  exact g.block x a2 (fun c => a4 c.symm)
 refine ⟨ro3, (h1.b6.kept g fun c => ?_).kept g3 (by intro c; injection c with c; omega), hs, World.ownsRow.kept (World.ownsRow.kept h1.nm g ?_) g3 (.inr fun c => ?_), ?_, lay_snoc (VlL.keep hv fun x hx => ?_) _ (Lay.keep _ h1.lay fun x hx => ?_), fun x hx => ?_, fun x c => ?_, Nat.le_trans h1.sz (Nat.le_trans g.size g3.size), h.w0W⟩
 . have := lk _ c.symm
   omega
 . cases hv : vn.ownBlock with
   | none => exact .inl rfl
   | some x => exact .inr fun c => h1.nk x hv c.symm
 . have := ln _ c
   omega
 . rw [snoc_list, List.length_append]
   exact World.ownsRow.kept hn g3 (.inr fun c => by have := lk' _ c; omega)
 . obtain ⟨a1, a2, a3, a4⟩ := hr x hx
   rw [kp x a1 (by omega) a4]
   exact hb.block x a2
 . obtain ⟨a1, a2, a3, a4⟩ := h1.rng x hx
   exact kp x a1 a2 a4
 . have g1 := g.size
   have g2 := g3.size
   have key : B <= x /\ x < w1.heap.size /\ vn.ownBlock ≠ some x /\ vk.ownBlock ≠ some x := by
    rcases List.mem_append.1 hx with hx | hx
    . exact h1.rng x hx
    . obtain ⟨a1, a2, a3, a4⟩ := hr x hx
      exact ⟨a1, by omega, a3, a4⟩
   refine ⟨key.1, by omega, key.2.2.1, ?_⟩
   rcases hat with c | c
   . rw [c]; exact key.2.2.2
   . rw [c]; intro c; injection c with c; have := key.2.1; omega
 . intro c3
   rcases hat with c2 | c2
   . exact h1.nk x c (by rw [<- c2]; exact c3)
   . rw [c2] at c3
     injection c3 with c3
     have := ln x c
     omega
theorem NJ.val (h : NJ B g6 g8 r w0 W k wr l e ns f vn vk cs Lf) : ∃ na nc ka kc Lp, vn = .slice na ns.length nc /\ vk = .slice ka f.list.length kc /\ VlL wr (nst k (f, ns)) na nc ka kc Lp /\ ∀ x ∈ Lp, B <= x /\ x < wr.heap.size := by
 obtain ⟨na, nc, Ln, e1, n1, n2, n3, _⟩ := nml_of h.nm
 have hk := h.kd
 have hk' := h.kd
 rcases hk with ⟨_, ⟨e2, h0⟩ | ⟨g, cap, cur, e2, hg, hh, hle, hm, _⟩⟩
 . have hf : f = .nil := by
    cases f with
    | nil => rfl
    | cons a b c => simp [Fo.list] at h0
   subst hf
   refine ⟨na, nc, none, 0, Ln, e1, by rw [e2]; rfl, ⟨Ln, [], by simp, n1, n2, ⟨Nat.le_refl _, fun _ => rfl, by decide⟩, .inl ⟨rfl, rfl⟩⟩, fun x hx => ?_⟩
   exact World.ownsRow.lt h.nm x (n3 x hx)
 . refine ⟨na, nc, some ⟨g, 0, none⟩, cap, Ln ++ (g :: Lf), e1, e2, ⟨Ln, g :: Lf, rfl, n1, n2, ⟨hle, fun c => (by cases c), hm⟩, .inr ⟨g, 0, cs, Lf, rfl, rfl, fun i => ?_, fun j u hj => ?_, h.lay⟩⟩, fun x hx => ?_⟩
   . rw [e2] at hk'
     exact World.ownsRow.frozenAt hk' i
   . have := World.ownsRow.cells hk' (g := g) (by rw [e2]; rfl) j u hj
     rw [Addr.add_lit] at this
     exact this
   . rcases List.mem_append.1 hx with hx | hx
     . exact World.ownsRow.lt h.nm x (n3 x hx)
     . rcases List.mem_cons.1 hx with rfl | hx
       . exact World.ownsRow.lt h.kd x (by rw [e2]; rfl)
       . have := h.rng x hx
         exact ⟨this.1, this.2.1⟩
end
structure Qo (f : Rdr Vt) (w0 : World) (r : Nat) (W w' : World) (l : List Nat) (err : Int) (p : Vt) (na : Option Addr) (nc : Nat) (ka : Option Addr) (kc : Nat) (l' : List Nat) (err' : Int) : Prop where
 ro : Ro2 w0 r W w' l' err'
 vl : ∃ Lp, VlL w' p na nc ka kc Lp /\ ∀ x ∈ Lp, W.heap.size <= x /\ x < w'.heap.size
 wf : WfV p
 sq : Sq f l err l' err' p
def QvC (d : Nat) (dp : Int) : Prop := ∀ (w0 W : World) (r : Nat) (l : List Nat) (err : Int), Rq w0 r W l err -> w0.heap.size <= W.heap.size ->
 Calls Tryz.prog 67 #[.pointer (some ⟨r, 0, none⟩), .int .i64 dp] W fun e w' => ∃ p na nc ka kc l' err', e = .returned (.agg #[.int .i64 p.1.k, .int .i64 p.1.n, .int .i64 p.1.s, .string p.1.t, .slice na p.1.ns.length nc, .slice ka p.2.list.length kc]) /\ Hid (Qo (rdV d) w0 r W w' l err p na nc ka kc l' err')
end Go.Proofs.YtmbglggodifboaaGreat
