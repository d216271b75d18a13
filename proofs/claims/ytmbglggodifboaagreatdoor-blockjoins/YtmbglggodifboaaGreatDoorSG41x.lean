/-
  One region of the document's Node that draws its order, over whatever frame. · The contract of the document's own Node. · Regions that draw their order: a length that is taken first; a call beside a new variable. What the document's Up makes, over lists.
-/
import Derived.Test.YtmbglggodifboaaGreatDoorSG15x
import Derived.Test.YtmbglggodifboaaGreatDoorSSRsum
import Derived.Test.YtmbglggodifboaaGreatDoorSG39x
import Derived.Test.YtmbglggodifboaaGreatDoorSG16x
import Derived.Test.YtmbglggodifboaaGreatDoorSG40x
namespace Go.Proofs.YtmbglggodifboaaGreatDoor.Sh
open Go.RowKit Mt
theorem rsum_own {w : World} {base : Nat} {v : Value} {l : List Nat} (h : Own w base v l) (hl : 0 < l.length) (hn : l.length ≤ 100000) (ho : Oct l) :
    Calls Tryz.prog 35 #[v] w fun e w' => e = .returned (.agg (nums .u8 (D l)).toArray) ∧ Below w.heap.size w w' := by
  obtain ⟨g, cap, rfl, _, _, _, _, hc⟩ := h.form hl
  exact rsum_any (some ⟨g, 0, none⟩) cap l hn w (.inr ⟨g, 0, rfl, hc⟩) (fun e => by cases e) ho
def lj : List Nat → Array Bool
  | [] => Array.replicate 7 false
  | k :: ks => (lj ks).setIfInBounds k true
theorem lj_cons (k : Nat) (ks : List Nat) : (lj ks).setIfInBounds k true = lj (k :: ks) := rfl
def okN (ops : Array Oper) : Bool :=
  Region.noSelect ops && (
  Region.free .any ops (lj []) 1 && (
  (Region.ready .any ops (lj [])).contains 1 && (
  Region.free .any ops (lj [1]) 3 && (
  (Region.ready .any ops (lj [1])).contains 3 && (
  decide (Region.ready .any ops (lj [3, 1]) = [0]) && (
  decide (Region.ready .any ops (lj [0, 3, 1]) = [2]) && (
  decide (Region.ready .any ops (lj [2, 0, 3, 1]) = [4]) && (
  decide (Region.ready .any ops (lj [4, 2, 0, 3, 1]) = [5]) && (
  decide (Region.ready .any ops (lj [5, 4, 2, 0, 3, 1]) = [6]) && (
  decide (Region.ready .any ops (lj [6, 5, 4, 2, 0, 3, 1]) = [])))))))))))
theorem sl_run (a : Act) (d : Option Tmp) (x : Operand) (g : Nat) (h : a.eval x = .pointer (some ⟨g, 0, none⟩)) (y : TypeId) (s : String) (f : Array Edge) (w : World) : (execOp a.eval ⟨d, .slice 23 x none none none, y, s, f, none⟩).run Tryz.prog w = .ok (.value (.slice (some ⟨g, 0, none⟩) 32 32)) w := by
  generalize a.eval = ev at h
  simp only [execOp, h]
  go_simp
theorem bs_wp {K : Act → World → Prop} {Q : Exit → Act → World → Prop} (a : Act) (w : World) (y : TypeId) (s : String) (f : Array Edge) (hK : K (a.put (some 5) (.slice (some ⟨w.heap.size, 0, none⟩) 1 1)) (w.alloc (.cells #[.int .u8 ((1 : Nat) : Int)] 5))) :
    Oper.wp Tryz.prog ⟨some 5, .buildSlice 70 1 #[(0, .const (.int .u8 1))], y, s, f, none⟩ a w K Q := by
  unfold Oper.wp
  simp only [execOp]
  go_simp
  exact hK
theorem ap_wp {K : Act → World → Prop} {Q : Exit → Act → World → Prop} {o : Oper} {a : Act} {w : World} (s x : Operand) (ho : o.op = .call { callee := .builtin .append, args := #[s, x], argTypes := #[70, 70] })
    (base : Nat) (v : Value) (l : List Nat) (hs : a.eval s = v) (hown : Own w base v l) (g : Nat) (l2 : List Nat) (hl2 : l2.length = 32) (hx : a.eval x = .slice (some ⟨g, 0, none⟩) 32 32) (hc : Cells w g 0 l2) (hb : l.length ≤ 1000000) (hbase : base ≤ w.heap.size)
    (h : ∀ v' w', Own w' base v' (l ++ l2) → w.grownBy w' v.ownBlock → K (a.put o.dst v') w') : Oper.wp Tryz.prog o a w K Q := by
  obtain ⟨i, hi, hz0, hz1, hz2⟩ := info_parts Tryz.info5
  refine wp_append_own w s x 70 ho base 5 i (.int .u8 0) 1 1 Tryz.underlying70 hi hz0 hz1 hz2 rfl (by decide) v _ _ hs hown ⟨g, 0, none⟩ 32 32 (vals l2) hx (by simp [vals_length, hl2]) (fun j u hj => ?_) (vals_one l2) (by unfold maxLen; omega) (by omega) hbase ?_
  · have hjl : j < l2.length := by
      have := (List.getElem?_eq_some_iff.1 hj).1
      simpa [vals_length] using this
    rw [vals_get l2 j hjl] at hj
    rw [Addr.add_lit, hc j hjl]
    exact hj
  · intro v' w' h1 h2 _
    refine h v' w' ?_ h2
    unfold Own
    rw [List.length_append, hl2, show vals (l ++ l2) = vals l ++ vals l2 by simp [vals]]
    exact h1
theorem cl8_wp {K : Act → World → Prop} {Q : Exit → Act → World → Prop} (a : Act) (w : World) (y : TypeId) (s : String) (f : Array Edge) (u r : Value) (h1 : a.eval (.tmp 9) = u) (R : World → Prop)
    (hC : Calls Tryz.prog 35 #[u] w fun e w' => e = .returned r ∧ R w') (hK : ∀ w', R w' → K (a.put (some 10) r) w') :
    Oper.wp Tryz.prog ⟨some 10, .call { callee := .value (.func 35), args := #[.tmp 9], argTypes := #[70] }, y, s, f, none⟩ a w K Q := by
  have h0 : a.eval (.func 35) = .func (.func 35) #[] #[] := rfl
  generalize hev : a.eval = ev at h1 h0
  unfold Oper.wp
  rw [hev]
  simp only [execOp]
  go_simp
  refine hC.mono ?_
  rintro e w' ⟨rfl, hR⟩
  exact hK w' hR
set_option maxHeartbeats 1000000 in
set_option maxRecDepth 8000 in
theorem regn {y0 y1 y2 y3 y4 y5 y6 : TypeId} {s0 s1 s2 s3 s4 s5 s6 : String} {f0 f1 f2 f3 f4 f5 f6 : Array Edge} {id : Nat} {Q : Exit → Act → World → Prop} {a : Act} {wy : World} (ga gb g1 : Nat) (lh rh : List Nat) (hz : a.tmps.size = 11) (h2 : a.eval (.tmp 2) = .pointer (some ⟨ga, 0, none⟩)) (h3 : a.eval (.tmp 3) = .pointer (some ⟨gb, 0, none⟩)) (h4 : a.eval (.tmp 4) = .pointer (some ⟨g1, 0, none⟩))
    (hQ : ∀ c (a : Act) (i : Nat) v w, Q (.panic c) (a.put (some i) v) w → Q (.panic c) a w) (hok : okN #[⟨some 5, .buildSlice 70 1 #[(0, .const (.int .u8 1))], y0, s0, f0, none⟩, ⟨some 6, .slice 23 (.tmp 2) none none none, y1, s1, f1, none⟩, ⟨some 7, .call { callee := .builtin .append, args := #[.tmp 5, .tmp 6], argTypes := #[70, 70] }, y2, s2, f2, none⟩, ⟨some 8, .slice 23 (.tmp 3) none none none, y3, s3, f3, none⟩, ⟨some 9, .call { callee := .builtin .append, args := #[.tmp 7, .tmp 8], argTypes := #[70, 70] }, y4, s4, f4, none⟩, ⟨some 10, .call { callee := .value (.func 35), args := #[.tmp 9], argTypes := #[70] }, y5, s5, f5, none⟩, ⟨none, .store 23 (.tmp 4) (.tmp 10), y6, s6, f6, none⟩] = true) (hl : lh.length = 32) (hr : rh.length = 32) (hol : Oct lh) (hor : Oct rh)
    (BA : Blk wy ga 23 (nums .u8 lh)) (BB : Blk wy gb 23 (nums .u8 rh)) (B1 : Blk wy g1 23 (nums .u8 (List.replicate 32 0)))
    (h : ∀ v1 v2 wf, Blk wf g1 23 (nums .u8 (D (1 :: (lh ++ rh)))) → wy.grownBy wf (some g1) → Q .normal ((((((a.put (some 6) (.slice (some ⟨ga, 0, none⟩) 32 32)).put (some 8) (.slice (some ⟨gb, 0, none⟩) 32 32)).put (some 5) (.slice (some ⟨wy.heap.size, 0, none⟩) 1 1)).put (some 7) v1).put (some 9) v2).put (some 10) (.agg (nums .u8 (D (1 :: (lh ++ rh)))).toArray)) wf) :
    (Code.region id #[⟨some 5, .buildSlice 70 1 #[(0, .const (.int .u8 1))], y0, s0, f0, none⟩, ⟨some 6, .slice 23 (.tmp 2) none none none, y1, s1, f1, none⟩, ⟨some 7, .call { callee := .builtin .append, args := #[.tmp 5, .tmp 6], argTypes := #[70, 70] }, y2, s2, f2, none⟩, ⟨some 8, .slice 23 (.tmp 3) none none none, y3, s3, f3, none⟩, ⟨some 9, .call { callee := .builtin .append, args := #[.tmp 7, .tmp 8], argTypes := #[70, 70] }, y4, s4, f4, none⟩, ⟨some 10, .call { callee := .value (.func 35), args := #[.tmp 9], argTypes := #[70] }, y5, s5, f5, none⟩, ⟨none, .store 23 (.tmp 4) (.tmp 10), y6, s6, f6, none⟩] true).wp Tryz.prog Q a wy := by
  have ID : (Tryz.prog.info? 23).map (·.size) = some (nums .u8 (D (1 :: (lh ++ rh)))).length := by rw [nums_length, D_len]; exact s25
  have ND : (nums .u8 (D (1 :: (lh ++ rh)))).length = (nums .u8 (List.replicate 32 0)).length := by rw [nums_length, nums_length, D_len, List.length_replicate]
  simp only [okN, Bool.and_eq_true, decide_eq_true_eq] at hok
  obtain ⟨c0, c1, c2, c3, c4, c5, c6, c7, c8, c9, c10⟩ := hok
  refine wp_region_any (by kernel_rfl) ?_
  show wpAny Tryz.prog .any _ _ 7 (lj []) _ wy.drew
  refine wpAny_take (i := 1) (oi := ⟨some 6, .slice 23 (.tmp 2) none none none, y1, s1, f1, none⟩) (v := .slice (some ⟨ga, 0, none⟩) 32 32) rfl c0 c1 c2 (fun _ _ _ h => hQ _ _ _ _ _ h) (Or.inl ⟨rfl, fun w => by exact sl_run _ _ _ ga h2 _ _ _ _⟩) ?_
  rw [lj_cons]
  refine wpAny_take (i := 3) (oi := ⟨some 8, .slice 23 (.tmp 3) none none none, y3, s3, f3, none⟩) (v := .slice (some ⟨gb, 0, none⟩) 32 32) rfl c0 c3 c4 (fun _ _ _ h => hQ _ _ _ _ _ h) (Or.inl ⟨rfl, fun w => by exact sl_run _ _ _ gb (by simp [ev_put, hz, h3]) _ _ _ _⟩) ?_
  rw [lj_cons]
  refine wpAny_ready (rs := [0]) c5 (by simp) ?_
  refine AllReady.cons (i := 0) (rs := []) (o := ⟨some 5, .buildSlice 70 1 #[(0, .const (.int .u8 1))], y0, s0, f0, none⟩) (by kernel_rfl) ?_ AllReady.nil
  intro K hK
  rw [if_pos (wanted_none rfl)]
  refine bs_wp _ _ _ _ _ ?_
  refine hK _ _ ?_
  clear hK K
  rw [lj_cons]
  have oe := own_one wy.drew 1 wy.drew.heap.size (Nat.le_refl _)
  have b1 := (Below.refl wy.drew.heap.size wy.drew).alloc (Nat.le_refl _) (.cells #[.int .u8 ((1 : Nat) : Int)] 5)
  have BA0 : Blk wy.drew ga 23 (nums .u8 lh) := BA
  have BB0 : Blk wy.drew gb 23 (nums .u8 rh) := BB
  have B10 : Blk wy.drew g1 23 (nums .u8 (List.replicate 32 0)) := B1
  refine wpAny_ready (rs := [2]) c6 (by simp) ?_
  refine AllReady.cons (i := 2) (rs := []) (o := ⟨some 7, .call { callee := .builtin .append, args := #[.tmp 5, .tmp 6], argTypes := #[70, 70] }, y2, s2, f2, none⟩) (by kernel_rfl) ?_ AllReady.nil
  intro K hK
  rw [if_pos (wanted_none rfl)]
  have el : ∀ a : Act, a.eval (.tmp 5) = .slice (some ⟨wy.drew.heap.size, 0, none⟩) 1 1 → a.eval (.tmp 6) = .slice (some ⟨ga, 0, none⟩) 32 32 → (∀ v' w', Own w' wy.drew.heap.size v' ([1] ++ lh) → Below wy.drew.heap.size wy.drew w' → K (a.put (some 7) v') w') → Oper.wp Tryz.prog ⟨some 7, .call { callee := .builtin .append, args := #[.tmp 5, .tmp 6], argTypes := #[70, 70] }, y2, s2, f2, none⟩ a (wy.drew.alloc (.cells #[.int .u8 ((1 : Nat) : Int)] 5)) K Q :=
    fun a e1 e2 e3 => ap_wp (.tmp 5) (.tmp 6) rfl wy.drew.heap.size _ [1] e1 oe ga lh hl e2 (blk_cells (BA0.alloc _)) (by simp) (by simp) (fun v' w' o' g' => e3 v' w' o' (below_app b1 (by simp) oe g'))
  refine el _ ?_ ?_ ?_
  · simp [ev_put, sz_put, hz]
  · simp [ev_put, sz_put, hz]
  intro v1 w2 o1 b2
  refine hK _ _ ?_
  clear el hK K
  rw [lj_cons]
  refine wpAny_ready (rs := [4]) c7 (by simp) ?_
  refine AllReady.cons (i := 4) (rs := []) (o := ⟨some 9, .call { callee := .builtin .append, args := #[.tmp 7, .tmp 8], argTypes := #[70, 70] }, y4, s4, f4, none⟩) (by kernel_rfl) ?_ AllReady.nil
  intro K hK
  rw [if_pos (wanted_none rfl)]
  have el : ∀ a : Act, a.eval (.tmp 7) = v1 → a.eval (.tmp 8) = .slice (some ⟨gb, 0, none⟩) 32 32 → (∀ v' w', Own w' wy.drew.heap.size v' (([1] ++ lh) ++ rh) → Below wy.drew.heap.size wy.drew w' → K (a.put (some 9) v') w') → Oper.wp Tryz.prog ⟨some 9, .call { callee := .builtin .append, args := #[.tmp 7, .tmp 8], argTypes := #[70, 70] }, y4, s4, f4, none⟩ a w2 K Q :=
    fun a e1 e2 e3 => ap_wp (.tmp 7) (.tmp 8) rfl wy.drew.heap.size _ ([1] ++ lh) e1 o1 gb rh hr e2 (blk_cells (BB0.below b2 BB0.lt)) (by simp; omega) b2.size (fun v' w' o' g' => e3 v' w' o' (below_app b2 b2.size o1 g'))
  refine el _ ?_ ?_ ?_
  · simp [ev_put, sz_put, hz]
  · simp [ev_put, sz_put, hz]
  intro v2 w3 o2 b3
  refine hK _ _ ?_
  clear el hK K
  rw [lj_cons]
  have hC : Calls Tryz.prog 35 #[v2] w3 fun e w' => e = .returned (.agg (nums .u8 (D (1 :: (lh ++ rh)))).toArray) ∧ Below w3.heap.size w3 w' := by
    have o3 : Own w3 wy.drew.heap.size v2 (1 :: (lh ++ rh)) := by simpa using o2
    exact rsum_own o3 (by simp) (by simp; omega) (fun x hx => by
      rcases List.mem_cons.1 hx with rfl | hx
      · decide
      rcases List.mem_append.1 hx with hx | hx
      · exact hol x hx
      · exact hor x hx)
  refine wpAny_ready (rs := [5]) c8 (by simp) ?_
  refine AllReady.cons (i := 5) (rs := []) (o := ⟨some 10, .call { callee := .value (.func 35), args := #[.tmp 9], argTypes := #[70] }, y5, s5, f5, none⟩) (by kernel_rfl) ?_ AllReady.nil
  intro K hK
  rw [if_pos (wanted_none rfl)]
  have el : ∀ a : Act, a.eval (.tmp 9) = v2 → (∀ w', Below w3.heap.size w3 w' → K (a.put (some 10) (.agg (nums .u8 (D (1 :: (lh ++ rh)))).toArray)) w') → Oper.wp Tryz.prog ⟨some 10, .call { callee := .value (.func 35), args := #[.tmp 9], argTypes := #[70] }, y5, s5, f5, none⟩ a w3 K Q := fun a e1 e3 => cl8_wp a w3 _ _ _ _ _ e1 _ hC e3
  refine el _ ?_ ?_
  · simp [ev_put, sz_put, hz]
  intro w4 b4
  refine hK _ _ ?_
  clear el hK K
  rw [lj_cons]
  have b5 := b3.trans (b4.mono b3.size)
  have B4 := B10.below b5 B10.lt
  refine wpAny_ready (rs := [6]) c9 (by simp) ?_
  refine AllReady.cons (i := 6) (rs := []) (o := ⟨none, .store 23 (.tmp 4) (.tmp 10), y6, s6, f6, none⟩) (by kernel_rfl) ?_ AllReady.nil
  intro K hK
  rw [if_pos (wanted_none rfl)]
  have el : ∀ a : Act, a.eval (.tmp 4) = .pointer (some ⟨g1, 0, none⟩) → a.eval (.tmp 10) = .agg (nums .u8 (D (1 :: (lh ++ rh)))).toArray → K a (w4.setCells g1 0 (nums .u8 (D (1 :: (lh ++ rh))))) → Oper.wp Tryz.prog ⟨none, .store 23 (.tmp 4) (.tmp 10), y6, s6, f6, none⟩ a w4 K Q := fun a e1 e2 e3 => sr_wp a w4 _ _ _ 23 (.tmp 4) (.tmp 10) g1 0 (nums .u8 (D (1 :: (lh ++ rh)))) e1 e2 (B4.there 0 _ (by rw [ND]; omega)) ID (nums_one _ _) e3
  refine el _ ?_ ?_ ?_
  · simp [ev_put, sz_put, hz, h4]
  · simp [ev_put, sz_put, hz]
  refine hK _ _ ?_
  clear el hK K
  rw [lj_cons]
  have B5 : Blk (w4.setCells g1 0 (nums .u8 (D (1 :: (lh ++ rh))))) g1 23 (nums .u8 (D (1 :: (lh ++ rh)))) := by
    have := Blk.setCells [] (nums .u8 (D (1 :: (lh ++ rh)))) (nums .u8 (List.replicate 32 0)) [] w4 ND (by simpa using B4)
    simpa using this
  have G5 : wy.grownBy (w4.setCells g1 0 (nums .u8 (D (1 :: (lh ++ rh))))) (some g1) := ((grown_drew wy _).trans (below_grown b5 _)).trans (grown_setCells g1 _ 0 w4)
  exact wpAny_done c10 (h v1 v2 _ B5 G5) _
end Go.Proofs.YtmbglggodifboaaGreatDoor.Sh
namespace Go.Proofs.YtmbglggodifboaaGreatDoor.Sh
open Go.RowKit Mt
set_option maxHeartbeats 1000000 in
set_option maxRecDepth 8000 in
theorem rnode_any (lh rh : List Nat) (hl : lh.length = 32) (hr : rh.length = 32) (hol : Hid (Oct lh)) (hor : Hid (Oct rh)) (w : World) :
    Calls Tryz.prog 22 #[.agg (nums .u8 lh).toArray, .agg (nums .u8 rh).toArray] w fun e w' => e = .returned (.agg (nums .u8 (D (1 :: (lh ++ rh)))).toArray) ∧ Below w.heap.size w w' := by
  have ID : Hid ((Tryz.prog.info? 23).map (·.size) = some (nums .u8 (D (1 :: (lh ++ rh)))).length) := by show _ = _; rw [nums_length, D_len]; exact s25
  go_enter Tryz.func22, Tryz.ntmps22
  go_wp2_with (refine al_box rfl 23 (.tmp 0) rfl (nums .u8 lh) rfl ?_)
  intro ga wa la BA GA
  have Z := (Below.refl w.heap.size w).grown GA (Nat.le_refl _) (by simp)
  clear GA
  go_wp2_with (refine al_box rfl 23 (.tmp 1) rfl (nums .u8 rh) rfl ?_)
  intro gb wb lb BB GB
  have BA := BA.kept GB (by simp)
  have Z := Z.grown GB Z.size (by simp)
  clear GB
  go_wp2_with (refine al_zero rfl 23 rfl _ z25 ?_)
  intro g1 w1 l1 B1 G1
  have BA := BA.kept G1 (by simp)
  have BB := BB.kept G1 (by simp)
  have hg1 : w.heap.size ≤ g1 := Nat.le_trans Z.size l1
  have Z := Z.grown G1 Z.size (by simp)
  clear G1
  go_wp2
  refine regn ga gb g1 lh rh rfl rfl rfl rfl (fun _ _ _ _ _ h => h) (by kernel_rfl) hl hr hol.out hor.out BA BB B1 ?_
  intro v1 v2 wf BF GF
  have Z := grown_below Z GF Z.size hg1
  clear GF BA BB B1
  simp only [Act.put, List.setIfInBounds_toArray, List.set_cons_succ, List.set_cons_zero]
  go_wp2
  (try simp only [Exit.inBlock, Exit.then])
  refine bodyPost_ret (res_row rfl _ g1 23 _ _ rfl BF Tryz.underlying23 rfl ID.out) rfl ⟨rfl, Z⟩
end Go.Proofs.YtmbglggodifboaaGreatDoor.Sh
namespace Go.Proofs.YtmbglggodifboaaGreatDoor.Mer
open Go Go.RowKit Sh
section
variable {C : World → Prop} {z : Nat} {Q : Exit → Act → World → Prop}
def firstL (ops : Array Oper) (z : Nat) (listed : Array Bool) (i : Nat) : Bool := lastOn ops z i && ((Region.ready .any ops listed).contains i && Region.free .any ops listed i)
end
end Go.Proofs.YtmbglggodifboaaGreatDoor.Mer
