/-
  The document's own Copy.
-/
import Derived.Test.YtmpnceicodfifaaGreatRcr
namespace Go.Proofs.YtmpnceicodfifaaGreat
open Go.RowKit Go.Maps
set_option linter.unusedVariables false
theorem q_loadf {C : World → Prop} {a : Act} {o : Oper} {K : Act → Prop} (x : Operand) (ho : o.op = .load 57 x) (b : Nat) (hx : a.eval x = .pointer (some ⟨b, 0, none⟩)) (s : ByteArray) (p : Option Addr) (n c : Nat) (v : Int)
    (hS : ∀ w, C w → w.cell? ⟨b, 0, none⟩ = some (.string s) ∧ w.cell? ⟨b, 1, none⟩ = some (.slice p n c) ∧ w.cell? ⟨b, 2, none⟩ = some (.int .i64 v))
    (hk : K (a.put o.dst (.agg #[.string s, .slice p n c, .int .i64 v]))) : o.quiet Tryz.prog a C K :=
  ⟨_, fun w hw => by
    obtain ⟨h0, h1, h2⟩ := hS w hw
    unfold Oper.quietAt execOp
    simp only [ho, hx]
    go_simp, hk⟩
theorem oper_buildf {o : Oper} {K : Act → World → Prop} {Q : Exit → Act → World → Prop} {a : Act} {w : World} (x : Operand) (ho : o.op = .buildSlice 50 1 #[(0, x)]) (s : ByteArray) (p : Option Addr) (n c : Nat) (v : Int) (hx : a.eval x = .agg #[.string s, .slice p n c, .int .i64 v])
    (hK : K (a.put o.dst (.slice (some ⟨w.heap.size, 0, none⟩) 1 1)) (w.alloc (.cells #[.string s, .slice p n c, .int .i64 v] 57))) : Oper.wp Tryz.prog o a w K Q := by
  unfold Oper.wp execOp
  simp only [ho]
  simp only [List.map_toArray, List.map_cons, List.map_nil, hx]
  go_simp
  exact hK
theorem own_le {w : World} {base base' : Nat} {v : Value} {l : List Nat} (h : Own w base v l) (hb : base' ≤ base) : Own w base' v l := by
  rcases h with ⟨h1, ⟨rfl, h0⟩ | ⟨g, cap, cur, rfl, hg, hh, hle, hm, h5⟩⟩
  · exact ⟨h1, .inl ⟨rfl, h0⟩⟩
  · exact ⟨h1, .inr ⟨g, cap, cur, rfl, Nat.le_trans hb hg, hh, hle, hm, h5⟩⟩
/-- A disk that is being copied into. -/
structure Cp (w wr : World) (room : Int) (vL : Value) (its : List It) : Prop where
  below : Below w.heap.size w wr
  blk : Blk wr w.heap.size 52 [.int .i64 room, vL, .int .i64 (-1)]
  own : OwnF wr w.heap.size vL its
  row : ∀ x ∈ its, Own wr w.heap.size x.v x.b
theorem Cp.ref {w wr : World} {room : Int} {vL : Value} {its : List It} (h : Cp w wr room vL its) {fs : List (Nm × Fl)} (e : fs = its.map It.fl) : Ref wr w.heap.size (rfoot w.heap.size vL its) ⟨room, -1, fs⟩ ∧ ∀ i, rfoot w.heap.size vL its i → w.heap.size ≤ i := by
  refine ⟨⟨vL, its, h.blk, ownF_mono0 h.own, fun x hx => own_mono0 (h.row x hx), e, rfl⟩, fun i hi => ?_⟩
  rcases hi with e | e | ⟨x, hx, e⟩
  · omega
  · exact (h.own.lt e).1
  · exact (own_lt (h.row x hx) e).1
theorem Cp.keptBy {T : Nat → Prop} {w wr w' : World} {room : Int} {vL : Value} {its : List It} (h : Cp w wr room vL its) (hk : Kept T wr w') (hT : ∀ i, i < wr.heap.size → ¬ T i) : Cp w w' room vL its :=
  have hb : Below wr.heap.size wr w' := ⟨hk.os, hk.tape, hk.output, hk.size, fun i hi => hk.block i hi (hT i hi)⟩
  ⟨h.below.trans (hb.mono h.below.size), h.blk.keptBy hk (hT _ h.blk.lt), h.own.keptBy hk (fun g hg => hT _ (h.own.lt hg).2), fun x hx => (h.row x hx).keptBy hk (fun g hg => hT _ (own_lt (h.row x hx) hg).2)⟩
theorem Cp.belowW {w wr w' : World} {room : Int} {vL : Value} {its : List It} (h : Cp w wr room vL its) (hb : Below wr.heap.size wr w') : Cp w w' room vL its :=
  h.keptBy (Kept.of_below (S := fun _ => False) hb) (fun _ _ h => h)
/-- A file comes to it. -/
theorem Cp.push {w wr w' : World} {room : Int} {vL v' : Value} {its : List It} {x : It} (h : Cp w wr room vL its) (ho : OwnF w' w.heap.size v' (its ++ [x])) (hg : wr.grownBy w' vL.ownBlock) (hx : Own wr w.heap.size x.v x.b) :
    Cp w (w'.setCell ⟨w.heap.size, 1, none⟩ v') room v' (its ++ [x]) := by
  have k1 : Kept (fun i => vL.ownBlock = some i) wr w' := Kept.of_grown hg (fun i e => e)
  have k2 : Kept (fun i => i = w.heap.size) w' (w'.setCell ⟨w.heap.size, 1, none⟩ v') := Kept.setCell (S := fun i => i = w.heap.size) w' ⟨w.heap.size, 1, none⟩ _ rfl
  have ne5 : ∀ {v l}, Own wr w.heap.size v l → ∀ j, v.ownBlock = some j → ¬ vL.ownBlock = some j := fun {v l} o j hj e => by
    obtain ⟨_, hv⟩ := o.blk hj
    obtain ⟨_, hu⟩ := h.own.blk e
    exact hv.ne hu (by decide) rfl
  have nb : ¬ vL.ownBlock = some w.heap.size := fun e => by
    obtain ⟨_, hu⟩ := h.own.blk e
    exact hu.ne h.blk (by decide) rfl
  have hb' := h.blk.keptBy k1 nb
  have row' : ∀ {v l}, Own wr w.heap.size v l → Own (w'.setCell ⟨w.heap.size, 1, none⟩ v') w.heap.size v l := fun {v l} o => by
    have o' := o.keptBy k1 (ne5 o)
    refine o'.keptBy k2 (fun j hj e => ?_)
    obtain ⟨_, hv⟩ := o'.blk hj
    exact hv.ne hb' (by decide) e
  refine ⟨?_, hb'.set 1 v', ho.keptBy k2 (fun j hj e => ?_), fun z hz => ?_⟩
  · have b1 : Below w.heap.size w w' := below_appf h.below h.below.size h.own hg
    have : Below w.heap.size w' (w'.setCell ⟨w.heap.size, 1, none⟩ v') := ⟨k2.os, k2.tape, k2.output, k2.size, fun i hi => k2.block i (Nat.lt_of_lt_of_le hi b1.size) (by omega)⟩
    exact b1.trans this
  · obtain ⟨_, hv⟩ := ho.blk hj
    exact hv.ne hb' (by decide) e
  · rcases List.mem_append.1 hz with hz | hz
    · exact row' (h.row z hz)
    · have : z = x := by simpa using hz
      subst this
      exact row' hx
set_option maxRecDepth 8000 in
set_option maxHeartbeats 4000000 in
theorem rcopy_any {w : World} {br : Nat} {R : Nat → Prop} {a : Ab} (h : Ref w br R a) (hl : Lim a) :
    Calls Tryz.prog 9 #[.pointer (some ⟨br, 0, none⟩)] w fun e w' => ∃ bn R', e = .returned (.pointer (some ⟨bn, 0, none⟩)) ∧ Ref w' bn R' ⟨a.room, -1, a.fs⟩ ∧ (∀ i, R' i → w.heap.size ≤ i) ∧ Below w.heap.size w w' := by
  have HE : Hid (Lim a) := hl
  have HH : Hid (Ref w br R a) := h
  have hfl : a.fs.length ≤ 4096 := hl.fine.fs.files
  obtain ⟨its0, aL0, cL0, hs0⟩ := h.seen
  have c0 := hs0.c0
  have hbr := cell_lt c0
  have H0 : Hid (Cp w (w.alloc (.cells #[.int .i64 a.room, .slice none 0 0, .int .i64 (-1)] 52)) a.room (.slice none 0 0) []) :=
    ⟨(Below.refl _ _).alloc (Nat.le_refl _) _, blk_new w 52 [.int .i64 a.room, .slice none 0 0, .int .i64 (-1)], ⟨rfl, .inl ⟨rfl, rfl⟩⟩, fun x hx => by cases hx⟩
  clear h hl hs0
  go_enter Tryz.func9, Tryz.ntmps9
  go_wp2
  go_loopw [4] (fun i wr => ∃ (k : Nat) (vL : Value) (its : List It), k ≤ a.fs.length ∧ i = .int .i64 (k : Int) ∧ Cp w wr a.room vL its ∧ a.fs.take k = its.map It.fl) (fun i _ => a.fs.length - (intOf i).toNat)
  case atStart => exact ⟨0, _, [], by omega, rfl, H0.out, rfl⟩
  case round =>
    obtain ⟨k, vL, itn, hk, rfl, hcp, htk⟩ := hrel
    have hrf := HH.out.below hcp.below
    by_cases hlt : k < a.fs.length
    case neg =>
      obtain ⟨its, aL, cL, hs⟩ := hrf.seen
      have c1 := hs.c1
      have hlen : its.length = a.fs.length := by
        have := congrArg List.length hs.fs
        simp only [List.length_map] at this
        exact this.symm
      rw [hlen] at c1
      rw [List.take_of_length_le (by omega)] at htk
      have HR : Hid (Cp w wr a.room vL itn ∧ a.fs = itn.map It.fl) := ⟨hcp, htk⟩
      clear hrf hs hlen hcp htk HH HE H0 c0
      generalize a.fs.length = nf at *
      go_wp2
      go_ret
      obtain ⟨r1, r2⟩ := HR.out.1.ref HR.out.2
      exact ⟨_, _, rfl, r1, r2, HR.out.1.below⟩
    obtain ⟨⟨nm, y⟩, hfx⟩ : ∃ p, a.fs[k]? = some p := ⟨_, List.getElem?_eq_getElem hlt⟩
    have hyl := HE.out.len hfx
    obtain ⟨its, g, cL, x, ax, cx, hri, hfs, hR, hil, hx, hxn, hxb, hxk, ev, hle, hmx2, hbc, hby, hnil, c1, f1, f2, hz, ho⟩ := hrf.at hfx
    have f0 : wr.cell? ⟨g, k * 3, none⟩ = some (.string (bsOf x.nm)) := (World.ownsRow.cellAt hri.own (k * 3) (by omega)).trans (icells_get its k x hx).1
    rw [hxb] at hby f1 hbc
    rw [hxk] at f2
    rw [hxn] at f0
    unfold maxLen at hmx2
    have hlen : its.length = a.fs.length := by
      have := congrArg List.length hfs
      simp only [List.length_map] at this
      exact this.symm
    have hdl : decide ((k : Int) < (its.length : Int)) = true := by rw [hlen]; simpa using hlt
    have hbrl := cell_lt c1
    have HTK : Hid (a.fs.take (k + 1) = itn.map It.fl ++ [(nm, y)]) := by
      show _ = _
      rw [List.take_succ_eq_append_getElem hlt, htk]
      rw [List.getElem?_eq_getElem hlt] at hfx
      rw [Option.some.inj hfx]
    have hitn : itn.length = k := by
      have := congrArg List.length htk
      rw [List.length_take, List.length_map] at this
      omega
    have HCP : Hid (Cp w wr a.room vL itn) := hcp
    have HBY : Hid (Byt wr ax y.b) := hby
    have hws := hcp.below.size
    have hwl := hcp.blk.lt
    have hgl := cell_lt f1
    clear hri hfs hR hx hxn hz ev hxb hxk ho hfx hrf HH HE hby hcp htk H0 c0 hlen
    have oe : Own ((wr.alloc (.cells #[.string (bsOf nm), .slice ax y.b.length cx, .int .i64 (y.k : Int)] 57)).alloc (.cells #[] 5)) (wr.heap.size + 1) (.slice (some ⟨wr.heap.size + 1, 0, none⟩) 0 0) [] := by
      have := own_empty (wr.alloc (.cells #[.string (bsOf nm), .slice ax y.b.length cx, .int .i64 (y.k : Int)] 57)) (wr.heap.size + 1) (by simp)
      simpa using this
    have bb1 : Below wr.heap.size wr (wr.alloc (.cells #[.string (bsOf nm), .slice ax y.b.length cx, .int .i64 (y.k : Int)] 57)) := (Below.refl _ _).alloc (Nat.le_refl _) _
    have bb2 : Below (wr.heap.size + 1) (wr.alloc (.cells #[.string (bsOf nm), .slice ax y.b.length cx, .int .i64 (y.k : Int)] 57)) ((wr.alloc (.cells #[.string (bsOf nm), .slice ax y.b.length cx, .int .i64 (y.k : Int)] 57)).alloc (.cells #[] 5)) := (Below.refl _ _).alloc (by simp) _
    have hby2 : Hid (Byt ((wr.alloc (.cells #[.string (bsOf nm), .slice ax y.b.length cx, .int .i64 (y.k : Int)] 57)).alloc (.cells #[] 5)) ax y.b) := HBY.out.below (bb1.alloc (by simp) _)
    have OE : Hid (Own ((wr.alloc (.cells #[.string (bsOf nm), .slice ax y.b.length cx, .int .i64 (y.k : Int)] 57)).alloc (.cells #[] 5)) (wr.heap.size + 1) (.slice (some ⟨wr.heap.size + 1, 0, none⟩) 0 0) []) := oe
    have BB : Hid (Below wr.heap.size wr (wr.alloc (.cells #[.string (bsOf nm), .slice ax y.b.length cx, .int .i64 (y.k : Int)] 57)) ∧ Below (wr.heap.size + 1) (wr.alloc (.cells #[.string (bsOf nm), .slice ax y.b.length cx, .int .i64 (y.k : Int)] 57)) ((wr.alloc (.cells #[.string (bsOf nm), .slice ax y.b.length cx, .int .i64 (y.k : Int)] 57)).alloc (.cells #[] 5))) := ⟨bb1, bb2⟩
    clear oe bb1 bb2
    go_wp2_with (at_builtin; go_must (refine app_at rfl (.tmp 28) (.tmp 30) rfl (wr.heap.size + 1) _ [] rfl OE.out ax _ cx y.b rfl rfl hby2.out hnil (by simp; omega) (by simp) ?_))
    intro v5 w3 o5' g5 _
    have b3 : Below (wr.heap.size + 1) (wr.alloc (.cells #[.string (bsOf nm), .slice ax y.b.length cx, .int .i64 (y.k : Int)] 57)) w3 := below_app BB.out.2 (by simp) OE.out g5
    have o5 : Own w3 (wr.heap.size + 1) v5 y.b := by simpa using o5'
    have k3 : Blk w3 wr.heap.size 57 [.string (bsOf nm), .slice ax y.b.length cx, .int .i64 (y.k : Int)] := (blk_new wr 57 _).below b3 (by omega)
    have c31 : w3.cell? ⟨wr.heap.size, 1, none⟩ = some (.slice ax y.b.length cx) := k3.cell 1
    have z31 : w3.frozen? ⟨wr.heap.size, 1, none⟩ = false := k3.frozen 1
    have b4 : Below wr.heap.size wr (w3.setCell ⟨wr.heap.size, 1, none⟩ v5) := by
      have q : Kept (fun i => i = wr.heap.size) w3 (w3.setCell ⟨wr.heap.size, 1, none⟩ v5) := Kept.setCell (S := fun i => i = wr.heap.size) w3 ⟨wr.heap.size, 1, none⟩ _ rfl
      have b3' := BB.out.1.trans (b3.mono (Nat.le_succ _))
      exact b3'.trans ⟨q.os, q.tape, q.output, q.size, fun i hi => q.block i (Nat.lt_of_lt_of_le hi b3'.size) (by omega)⟩
    obtain ⟨p5, c5, rfl, _⟩ := o5.shape
    have H4 : Hid (Cp w (w3.setCell ⟨wr.heap.size, 1, none⟩ (.slice p5 y.b.length c5)) a.room vL itn ∧ Blk (w3.setCell ⟨wr.heap.size, 1, none⟩ (.slice p5 y.b.length c5)) wr.heap.size 57 [.string (bsOf nm), .slice p5 y.b.length c5, .int .i64 (y.k : Int)] ∧ Own (w3.setCell ⟨wr.heap.size, 1, none⟩ (.slice p5 y.b.length c5)) w.heap.size (.slice p5 y.b.length c5) y.b ∧ (∀ i, vL.ownBlock = some i → i < wr.heap.size)) :=
      ⟨HCP.out.belowW b4, k3.set 1 _, (own_le o5 (by omega)).keptBy (Kept.setCell (S := fun i => i = wr.heap.size) w3 ⟨wr.heap.size, 1, none⟩ _ rfl) (fun j hj e => by obtain ⟨_, hv⟩ := o5.blk hj; exact hv.ne k3 (by decide) e), fun i hi => (HCP.out.own.lt hi).2⟩
    clear o5 o5' g5 b3 k3 b4 hby2 OE BB HCP HBY f0 f1 f2 c1
    go_wp2
    clear c31 z31
    generalize w3.setCell ⟨wr.heap.size, 1, none⟩ (.slice p5 y.b.length c5) = w4 at *
    obtain ⟨hcp, hkf, how, hvl⟩ := H4.out
    obtain ⟨aN, cN, hvN, hNle, hNmx, hNnil, _, _⟩ := hcp.own.shape
    subst hvN
    obtain ⟨C, hCd⟩ : ∃ C : World → Prop, C = fun W => W.cell? ⟨w.heap.size, 1, none⟩ = some (.slice aN itn.length cN) ∧ W.cell? ⟨wr.heap.size, 0, none⟩ = some (.string (bsOf nm)) ∧ W.cell? ⟨wr.heap.size, 1, none⟩ = some (.slice p5 y.b.length c5) ∧ W.cell? ⟨wr.heap.size, 2, none⟩ = some (.int .i64 (y.k : Int)) := ⟨_, rfl⟩
    have kc : Hid (∀ W, C W → W.cell? ⟨w.heap.size, 1, none⟩ = some (.slice aN itn.length cN)) := fun W h => by rw [hCd] at h; exact h.1
    have kf : Hid (∀ W, C W → W.cell? ⟨wr.heap.size, 0, none⟩ = some (.string (bsOf nm)) ∧ W.cell? ⟨wr.heap.size, 1, none⟩ = some (.slice p5 y.b.length c5) ∧ W.cell? ⟨wr.heap.size, 2, none⟩ = some (.int .i64 (y.k : Int))) := fun W h => by rw [hCd] at h; exact h.2
    have kb : Hid (∀ W, Blk W w.heap.size 52 [.int .i64 a.room, .slice aN itn.length cN, .int .i64 (-1)] → Blk W wr.heap.size 57 [.string (bsOf nm), .slice p5 y.b.length c5, .int .i64 (y.k : Int)] → C W) := fun W h1 h2 => by
      rw [hCd]; exact ⟨h1.cell 1, h2.cell 0, h2.cell 1, h2.cell 2⟩
    have d0 : Hid (Below w4.heap.size w4 { w4 with drawn := w4.drawn + 1 }) := ⟨rfl, rfl, rfl, Nat.le_refl _, fun _ _ => rfl⟩
    have HD0 : Hid (Cp w { w4 with drawn := w4.drawn + 1 } a.room (.slice aN itn.length cN) itn ∧ Blk { w4 with drawn := w4.drawn + 1 } wr.heap.size 57 [.string (bsOf nm), .slice p5 y.b.length c5, .int .i64 (y.k : Int)] ∧ Own { w4 with drawn := w4.drawn + 1 } w.heap.size (.slice p5 y.b.length c5) y.b) :=
      ⟨hcp.belowW d0.out, hkf, how.keptBy (Kept.of_below (S := fun _ => False) d0.out) (fun _ _ h => h)⟩
    have z0 : Hid (C { w4 with drawn := w4.drawn + 1 }) := kb.out _ HD0.out.1.blk HD0.out.2.1
    have hCp : ∀ p : Prop, (∀ W, C W → p) ↔ p := fun p => ⟨fun h => h _ z0.out, fun h _ _ => h⟩
    have HVL : Hid (∀ i, (Value.slice aN itn.length cN).ownBlock = some i → i < wr.heap.size) := hvl
    have HIT : Hid (itn.length = k) := hitn
    have hi4 : itn.length ≤ 4096 := by omega
    clear hcp hkf how hvl H4 hCd d0 hitn
    refine region_calm C 10 (by kernel_rfl) ?_
    generalize ({ w4 with drawn := w4.drawn + 1 } : World) = W0 at *
    refine seg 5 [0, 1, 2, 3, 4, 5] rfl (by kernel_rfl) whole_blind z0.out (by kernel_rfl) ?_
    change wpQuiet _ _ _ _ (_ :: _ :: _ :: _ :: _ :: _ :: []) _
    repeat (first
      | go_big_quiet_skip
      | (go_big_quiet_want
         first
         | (refine q_load 50 (.tmp 36) rfl w.heap.size 1 rfl _ _ _ (.inr rfl) kc.out ?_
            simp only [Act.put, List.setIfInBounds_toArray, List.set_cons_zero, List.set_cons_succ]
            go_big_quiet_on)
         | (refine q_loadf (.tmp 5) rfl wr.heap.size rfl (bsOf nm) p5 y.b.length c5 (y.k : Int) kf.out ?_
            simp only [Act.put, List.setIfInBounds_toArray, List.set_cons_zero, List.set_cons_succ]
            go_big_quiet_on)
         | (go_big_quiet_op
            go_big_quiet_on)))
    refine wpQuiet_nil ?_
    refine lone_do (i := 6) 4 rfl (by kernel_rfl) rfl (by rfl) ?_
    intro K hK
    refine oper_buildf (.tmp 38) rfl (bsOf nm) p5 y.b.length c5 (y.k : Int) rfl ?_
    obtain ⟨hcp, hkf, how⟩ := HD0.out
    have b6 : Below W0.heap.size W0 (W0.alloc (.cells #[.string (bsOf nm), .slice p5 y.b.length c5, .int .i64 (y.k : Int)] 57)) := (Below.refl _ _).alloc (Nat.le_refl _) _
    have hcp6 := hcp.belowW b6
    have hkf6 := hkf.below b6 hkf.lt
    have how6 := how.keptBy (Kept.of_below (S := fun _ => False) b6) (fun _ _ h => h)
    have hone : FSrc (W0.alloc (.cells #[.string (bsOf nm), .slice p5 y.b.length c5, .int .i64 (y.k : Int)] 57)) (some ⟨W0.heap.size, 0, none⟩) [⟨nm, y.b, y.k, .slice p5 y.b.length c5⟩] := src_one W0 ⟨nm, y.b, y.k, .slice p5 y.b.length c5⟩
    have hsl : Slc [⟨nm, y.b, y.k, .slice p5 y.b.length c5⟩] := fun z hz => by
      have e : z = ⟨nm, y.b, y.k, .slice p5 y.b.length c5⟩ := by simpa using hz
      rw [e]; exact ⟨_, _, _, rfl⟩
    refine hK _ _ (kb.out _ hcp6.blk hkf6) ?_
    clear hK K
    simp only [Act.put, List.setIfInBounds_toArray, List.set_cons_zero, List.set_cons_succ]
    refine lone_do (i := 7) 3 rfl (by kernel_rfl) rfl (by rfl) ?_
    intro K hK
    refine oper_appf (.tmp 37) (.tmp 39) rfl w.heap.size _ itn rfl hcp6.own (some ⟨W0.heap.size, 0, none⟩) 1 1 [⟨nm, y.b, y.k, .slice p5 y.b.length c5⟩] rfl rfl hone (by simp) hsl (by simp; omega) hcp6.below.size ?_
    intro v8 w8 o8 g8 _
    have kb8 := hcp6.blk.kept g8 (fun e => by obtain ⟨_, hu⟩ := hcp6.own.blk e.symm; exact hu.ne hcp6.blk (by decide) rfl)
    have kf8 := hkf6.kept g8 (fun e => by have := HVL.out _ e.symm; omega)
    have c8 := kb8.cell 1
    have z8 := kb8.frozen 1
    have HP : Hid (Cp w (w8.setCell ⟨w.heap.size, 1, none⟩ v8) a.room v8 (itn ++ [⟨nm, y.b, y.k, .slice p5 y.b.length c5⟩])) := hcp6.push o8 g8 how6
    obtain ⟨a8, c8n, rfl, _⟩ := o8.shape
    refine hK _ _ (kb.out _ kb8 kf8) ?_
    clear hK K
    have C8 := kb.out _ kb8 kf8
    simp only [Act.put, List.setIfInBounds_toArray, List.set_cons_zero, List.set_cons_succ]
    refine lone_calm (i := 8) 2 rfl (by kernel_rfl) rfl rfl C8 ?_
    repeat (first
      | go_big_quiet_skip
      | (go_big_quiet_want
         go_big_quiet_op
         go_big_quiet_on))
    refine wpQuiet_nil ?_
    refine lone_calm (i := 9) 1 rfl (by kernel_rfl) rfl rfl C8 ?_
    repeat (first
      | go_big_quiet_skip
      | (go_big_quiet_want
         go_big_quiet_op
         go_big_quiet_on))
    refine wpQuiet_nil ?_
    refine lone_last (i := 10) 0 rfl rfl (by kernel_rfl) rfl (by rfl) ?_
    intro K hK
    refine oper_store 50 (.tmp 42) (.tmp 40) rfl w.heap.size 1 _ a8 _ c8n rfl rfl (.inr rfl) c8 z8 ?_
    refine hK _ _ ?_
    clear hK K
    simp only [Act.put]
    refine anyC_done (by kernel_rfl) ⟨rfl, ?_⟩
    have HT2 : Hid (a.fs.take (k + 1) = (itn ++ [(⟨nm, y.b, y.k, .slice p5 y.b.length c5⟩ : It)]).map It.fl) := by
      show _ = _
      rw [HTK.out, List.map_append]; rfl
    clear hcp hkf how b6 hcp6 hkf6 how6 hone kb8 kf8 c8 z8 C8 o8 g8 HD0 z0 kc kf kb hCp HVL HIT HTK
    generalize w8.setCell ⟨w.heap.size, 1, none⟩ (.slice a8 (itn ++ [(⟨nm, y.b, y.k, .slice p5 y.b.length c5⟩ : It)]).length c8n) = w9 at *
    have hil3 : k < a.fs.length := hlt
    go_wp2
    go_roundw
    case rel => exact ⟨k + 1, _, _, hil3, by go_num, HP.out, HT2.out⟩
    case measure => simp [intOf]; omega
#print axioms rcopy_any
end Go.Proofs.YtmpnceicodfifaaGreat
