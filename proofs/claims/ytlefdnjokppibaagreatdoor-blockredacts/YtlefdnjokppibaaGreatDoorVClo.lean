/-
  The document's own Clone.
-/
import Derived.Test.YtlefdnjokppibaaGreatDoorVG3x
namespace Go.Proofs.YtlefdnjokppibaaGreatDoor
open Go.RowKit
set_option linter.unusedVariables false
def zer : List Value := [.int .i64 0, .int .i64 0, .int .i64 0, .string ⟨#[]⟩, .slice none 0 0, .slice none 0 0]
structure CInv (w : World) (p : Vt) (na1 : Option Addr) (nc1 : Nat) (ka : Option Addr) (kc : Nat) (Ln : List Nat) (k : Nat) (vs : Value) (cs : List Value) (L : List Nat) (wr : World) : Prop where
  below : Below w.heap.size w wr
  b1 : Blk wr w.heap.size 41 (six p.1 na1 nc1 ka p.2.list.length kc)
  b2 : Blk wr (w.heap.size + 1) 41 zer
  own : wr.ownsRow (w.heap.size + 2) 41 6 vs k cs
  lay : Lay wr (p.2.take k) cs L
  nm : NmL wr na1 p.1.ns Ln
  cap : Cap na1 p.1.ns.length nc1
  rng : ∀ x ∈ Ln ++ L, w.heap.size + 2 ≤ x ∧ x < wr.heap.size ∧ vs.ownBlock ≠ some x
  nd : (Ln ++ L).Nodup
theorem CInv.step {w : World} {p q : Vt} {na1 : Option Addr} {nc1 : Nat} {ka : Option Addr} {kc : Nat} {Ln : List Nat} {k : Nat} {vs : Value} {cs : List Value} {L : List Nat} {wr w1 w3 : World} {na' : Option Addr} {nc' : Nat} {ka' : Option Addr} {kc' : Nat} {Lq : List Nat} {v' : Value}
    (h : CInv w p na1 nc1 ka kc Ln k vs cs L wr) (hq : p.2.list[k]? = some q) (hb : Below wr.heap.size wr w1) (hv : VlL w1 q na' nc' ka' kc' Lq) (hr : ∀ x ∈ Lq, wr.heap.size ≤ x ∧ x < w1.heap.size) (hn : Lq.Nodup) (ob : Obj)
    (g : (w1.alloc ob).grownBy w3 vs.ownBlock) (ho : w3.ownsRow (w.heap.size + 2) 41 6 v' (k + 1) (cs ++ six q.1 na' nc' ka' q.2.list.length kc')) (hat : v'.ownBlock = vs.ownBlock ∨ v'.ownBlock = some (w1.heap.size + 1)) :
    CInv w p na1 nc1 ka kc Ln (k + 1) v' (cs ++ six q.1 na' nc' ka' q.2.list.length kc') (L ++ Lq) w3 := by
  have hlt := World.ownsRow.lt h.own
  have s0 := h.b2.lt
  have s1 := hb.size
  have s2 : (w1.alloc ob).heap.size = w1.heap.size + 1 := by simp
  have s3 := g.size
  have hal : ∀ x, x < w1.heap.size → (w1.alloc ob).heap[x]? = w1.heap[x]? := fun x hx => (World.grownBy_alloc w1 ob none).block x hx (by simp)
  have k1 : ∀ x, x < w1.heap.size → vs.ownBlock ≠ some x → w3.heap[x]? = w1.heap[x]? := fun x hx hne => by
    rw [g.block x (by omega) (fun e => hne e.symm), hal x hx]
  have k2 : ∀ x, x < wr.heap.size → vs.ownBlock ≠ some x → w3.heap[x]? = wr.heap[x]? := fun x hx hne => by
    rw [k1 x (by omega) hne, hb.block x hx]
  have n1 : vs.ownBlock ≠ some w.heap.size := fun e => by have := (hlt _ e).1; omega
  have n2 : vs.ownBlock ≠ some (w.heap.size + 1) := fun e => by have := (hlt _ e).1; omega
  have n3 : ∀ x ∈ Lq, vs.ownBlock ≠ some x := fun x hx e => by have := (hlt _ e).2; have := (hr x hx).1; omega
  have b2 : Below w.heap.size w w1 := h.below.trans (hb.mono h.below.size)
  refine ⟨?_, ?_, ?_, ho, ?_, ?_, h.cap, ?_, ?_⟩
  · exact (b2.alloc b2.size ob).grown g (by have := b2.size; omega) fun x hx => by have := (hlt _ hx).1; omega
  · unfold Blk; rw [k2 _ (by omega) n1]; exact h.b1
  · unfold Blk; rw [k2 _ s0 n2]; exact h.b2
  · refine Lay.snoc (hv.keep fun x hx => k1 x (hr x hx).2 (n3 x hx)) _ _ hq (Lay.keep _ h.lay fun x hx => ?_)
    have := h.rng x (by simp [hx])
    exact k2 x this.2.1 this.2.2
  · refine h.nm.keep fun x hx => ?_
    have := h.rng x (by simp [hx])
    exact k2 x this.2.1 this.2.2
  · intro x hx
    rw [← List.append_assoc] at hx
    rcases List.mem_append.1 hx with hx | hx
    · obtain ⟨a1, a2, a3⟩ := h.rng x hx
      refine ⟨a1, by omega, ?_⟩
      rcases hat with e | e
      · rw [e]; exact a3
      · rw [e]; intro c; injection c with c; omega
    · obtain ⟨a1, a2⟩ := hr x hx
      refine ⟨by omega, by omega, ?_⟩
      rcases hat with e | e
      · rw [e]; exact n3 x hx
      · rw [e]; intro c; injection c with c; omega
  · rw [← List.append_assoc, List.nodup_append]
    refine ⟨h.nd, hn, fun x hx y hy e => ?_⟩
    subst e
    have := (h.rng x hx).2.1
    have := (hr x hy).1
    omega
theorem CInv.done {w : World} {p : Vt} {na1 : Option Addr} {nc1 : Nat} {ka : Option Addr} {kc : Nat} {Ln : List Nat} {vs : Value} {cs : List Value} {L : List Nat} {wr w' : World}
    (h : CInv w p na1 nc1 ka kc Ln p.2.list.length vs cs L wr) (hk : ∀ x, w.heap.size + 2 ≤ x → x < wr.heap.size → w'.heap[x]? = wr.heap[x]?) (hs : wr.heap.size ≤ w'.heap.size) {ka' : Option Addr} {kc' : Nat} (hv : vs = .slice ka' p.2.list.length kc') :
    ∃ L', VlL w' p na1 nc1 ka' kc' L' ∧ (∀ x ∈ L', w.heap.size ≤ x ∧ x < w'.heap.size) ∧ L'.Nodup := by
  have hlay := h.lay
  rw [Fo.take_all _ _ (Nat.le_refl _)] at hlay
  have hnm : NmL w' na1 p.1.ns Ln := h.nm.keep fun x hx => by
    have := h.rng x (by simp [hx])
    exact hk x this.1 this.2.1
  have hown := h.own
  rcases h.own with ⟨h1, ⟨rfl, h0⟩ | ⟨g, cap, cur, rfl, hg, hh, hle, hm, h5, h6⟩⟩
  · have e := list_nil h0
    injection hv with a1 _ a3
    subst a1 a3
    refine ⟨Ln ++ [], ⟨Ln, [], rfl, hnm, h.cap, ⟨by omega, fun _ => rfl, by omega⟩, .inl ⟨e, rfl⟩⟩, fun x hx => ?_, ?_⟩
    · have := h.rng x (by simp only [List.append_nil] at hx; simp [hx])
      omega
    · have := (List.nodup_append.1 h.nd).1
      simpa using this
  · injection hv with a1 _ a3
    subst a1 a3
    have hgl := World.ownsRow.lt hown g rfl
    have hge := hk g hgl.1 hgl.2
    refine ⟨Ln ++ (g :: L), ⟨Ln, g :: L, rfl, hnm, h.cap, ⟨hle, (fun e => by simp at e), hm⟩, .inr ⟨g, 0, cs, L, rfl, rfl, ?_, ?_, ?_⟩⟩, fun x hx => ?_, ?_⟩
    · exact Fre.keep (fun i => frozen_of_row wr g i cur 41 hh) hge
    · intro j u hj
      rw [Nat.zero_add, cell_keep hge]
      have hlt := (List.getElem?_eq_some_iff.1 hj).1
      rw [World.ownsRow.cellAt hown j (by rw [← h1]; exact hlt)]
      exact hj
    · refine Lay.keep _ hlay fun x hx => ?_
      have := h.rng x (by simp [hx])
      exact hk x this.1 this.2.1
    · rcases List.mem_append.1 hx with hx | hx
      · have := h.rng x (by simp [hx]); omega
      · rcases List.mem_cons.1 hx with rfl | hx
        · omega
        · have := h.rng x (by simp [hx]); omega
    · have n0 := List.nodup_append.1 h.nd
      rw [List.nodup_append]
      refine ⟨n0.1, List.nodup_cons.2 ⟨fun hx => (h.rng g (by simp [hx])).2.2 rfl, n0.2.1⟩, fun x hx y hy e => ?_⟩
      subst e
      rcases List.mem_cons.1 hy with rfl | hy
      · exact (h.rng x (by simp [hx])).2.2 rfl
      · exact n0.2.2 x hx x hy rfl
theorem CInv.shape {w : World} {p : Vt} {na1 : Option Addr} {nc1 : Nat} {ka : Option Addr} {kc : Nat} {Ln : List Nat} {k : Nat} {vs : Value} {cs : List Value} {L : List Nat} {wr : World} (h : CInv w p na1 nc1 ka kc Ln k vs cs L wr) : ∃ ka' kc', vs = .slice ka' k kc' := by
  rcases h.own with ⟨h1, ⟨rfl, rfl⟩ | ⟨g, cap, cur, rfl, _⟩⟩
  · exact ⟨none, 0, rfl⟩
  · exact ⟨_, cap, rfl⟩
theorem ws_mem {q : Vt} : ∀ {f : Fo}, q ∈ f.list → ws q ≤ f.ws
  | .cons h k r, hq => by
    simp only [Fo.list, List.mem_cons] at hq
    simp only [Fo.ws]
    rcases hq with rfl | hq
    · simp only [ws]; omega
    · have := ws_mem hq; omega
theorem len_ws (f : Fo) : f.list.length ≤ f.ws := by
  induction f with
  | nil => simp [Fo.list]
  | cons h k r _ ihr => simp only [Fo.list, Fo.ws, List.length_cons, wsH]; omega
theorem res_row {P : Program} {w : World} {fn : Func} {p : Tmp} {ty : TypeId} (h : fn.results = #[.cell p ty]) (tmps : Array Value) (g : Nat) (t : TypeId) (cs : List Value) (d : TypeDesc)
    (hp : tmps.getD p undef = .pointer (some ⟨g, 0, none⟩)) (hg : Blk w g t cs) (hu : P.underlying ty = some d) (hd : d.isRow = true) (hi : (P.info? ty).map (·.size) = some cs.length) :
    (results fn tmps).run P w = .ok (.agg cs.toArray) w :=
  results_cell_row h tmps w g t cs.toArray (0, 0) d hp hg hu (by cases d <;> simp_all [TypeDesc.isRow]) (by simpa using hi)
theorem res_two {P : Program} {w : World} {fn : Func} {p q : Tmp} {ty : TypeId} (h : fn.results = #[.cell p ty, .tmp q]) (tmps : Array Value) (g : Nat) (t : TypeId) (cs : List Value) (d : TypeDesc)
    (hp : tmps.getD p undef = .pointer (some ⟨g, 0, none⟩)) (hg : Blk w g t cs) (hu : P.underlying ty = some d) (hd : d.isRow = true) (hi : (P.info? ty).map (·.size) = some cs.length) :
    (results fn tmps).run P w = .ok (.tuple #[.agg cs.toArray, tmps.getD q undef]) w := by
  have hp' : tmps[p]?.getD undef = .pointer (some ⟨g, 0, none⟩) := by simpa using hp
  simp [results, h, hp', asAddr, run_loadVar_row w g t ty cs.toArray (0, 0) d hg hu (by cases d <;> simp_all [TypeDesc.isRow]) (by simpa using hi)]
theorem s22 : (Tryz.prog.info? 38).map (·.size) = some 1 := by kernel_rfl
theorem s23 : (Tryz.prog.info? 39).map (·.size) = some 1 := by kernel_rfl
theorem s25 : (Tryz.prog.info? 41).map (·.size) = some 6 := by kernel_rfl
def CIh (p0 : Vt) : Prop := ∀ p : Vt, wt p < wt p0 → WfV p → ws p ≤ 100000 → ∀ (na : Option Addr) (nc : Nat) (ka : Option Addr) (kc : Nat) (W : World), Vl W p na nc ka kc →
  Calls Tryz.prog 27 #[.agg #[.int .i64 p.1.k, .int .i64 p.1.n, .int .i64 p.1.s, .string p.1.t, .slice na p.1.ns.length nc, .slice ka p.2.list.length kc]] W fun e w' => ∃ na' nc' ka' kc', e = .returned (.agg #[.int .i64 p.1.k, .int .i64 p.1.n, .int .i64 p.1.s, .string p.1.t, .slice na' p.1.ns.length nc', .slice ka' p.2.list.length kc']) ∧ Hid (∃ L, VlL w' p na' nc' ka' kc' L ∧ (∀ x ∈ L, W.heap.size ≤ x ∧ x < w'.heap.size) ∧ L.Nodup ∧ Below W.heap.size W w')
set_option maxRecDepth 8000 in
set_option maxHeartbeats 1000000 in
theorem clone_step (p : Vt) (ih : CIh p) (hwf : WfV p) (hws : ws p ≤ 100000) (na : Option Addr) (nc : Nat) (ka : Option Addr) (kc : Nat) (W : World) (hv : Vl W p na nc ka kc) :
    Calls Tryz.prog 27 #[.agg #[.int .i64 p.1.k, .int .i64 p.1.n, .int .i64 p.1.s, .string p.1.t, .slice na p.1.ns.length nc, .slice ka p.2.list.length kc]] W fun e w' => ∃ na' nc' ka' kc', e = .returned (.agg #[.int .i64 p.1.k, .int .i64 p.1.n, .int .i64 p.1.s, .string p.1.t, .slice na' p.1.ns.length nc', .slice ka' p.2.list.length kc']) ∧ Hid (∃ L, VlL w' p na' nc' ka' kc' L ∧ (∀ x ∈ L, W.heap.size ≤ x ∧ x < w'.heap.size) ∧ L.Nodup ∧ Below W.heap.size W w') := by
  obtain ⟨W3, HW3⟩ : ∃ W3, Hid (((W.alloc (.cells #[.int .i64 p.1.k, .int .i64 p.1.n, .int .i64 p.1.s, .string p.1.t, .slice na p.1.ns.length nc, .slice ka p.2.list.length kc] 41)).alloc (.cells #[.int .i64 0, .int .i64 0, .int .i64 0, .string ⟨#[]⟩, .slice none 0 0, .slice none 0 0] 41)).alloc (.cells #[] 9) = W3) := ⟨_, rfl⟩
  have hkl : p.2.list.length ≤ 100000 := by have := len_ws p.2; simp only [ws] at hws; omega
  have hnl : p.1.ns.length ≤ 100000 := by simp only [ws, wsH] at hws; omega
  have hbW : Below W.heap.size W W3 := by rw [← HW3.out]; exact (((Below.refl _ _).alloc (Nat.le_refl _) _).alloc (by simp) _).alloc (by simp; omega) _
  have HBW : Hid (Below W.heap.size W W3) := hbW
  have HB1 : Hid (Blk W3 W.heap.size 41 (six p.1 na nc ka p.2.list.length kc)) := by rw [← HW3.out]; exact ((blk_new W 41 (six p.1 na nc ka p.2.list.length kc)).alloc _).alloc _
  have HB2 : Hid (Blk W3 (W.heap.size + 1) 41 zer) := by
    rw [← HW3.out]
    have h := (blk_new (W.alloc (.cells #[.int .i64 p.1.k, .int .i64 p.1.n, .int .i64 p.1.s, .string p.1.t, .slice na p.1.ns.length nc, .slice ka p.2.list.length kc] 41)) 41 zer).alloc (.cells #[] 9)
    rw [show (W.alloc (.cells #[.int .i64 p.1.k, .int .i64 p.1.n, .int .i64 p.1.s, .string p.1.t, .slice na p.1.ns.length nc, .slice ka p.2.list.length kc] 41)).heap.size = W.heap.size + 1 by simp] at h
    exact h
  have HO : Hid (W3.ownsRow (W.heap.size + 2) 9 1 (.slice (some ⟨W.heap.size + 1 + 1, 0, none⟩) 0 0) 0 []) := by
    rw [← HW3.out]
    have := World.ownsRow_lit (e := 9) (size := 1) (base := W.heap.size + 2) ((W.alloc (.cells #[.int .i64 p.1.k, .int .i64 p.1.n, .int .i64 p.1.s, .string p.1.t, .slice na p.1.ns.length nc, .slice ka p.2.list.length kc] 41)).alloc (.cells #[.int .i64 0, .int .i64 0, .int .i64 0, .string ⟨#[]⟩, .slice none 0 0, .slice none 0 0] 41)) #[] 0 (by simp) (by decide) rfl
    rw [show ((W.alloc (.cells #[.int .i64 p.1.k, .int .i64 p.1.n, .int .i64 p.1.s, .string p.1.t, .slice na p.1.ns.length nc, .slice ka p.2.list.length kc] 41)).alloc (.cells #[.int .i64 0, .int .i64 0, .int .i64 0, .string ⟨#[]⟩, .slice none 0 0, .slice none 0 0] 41)).heap.size = W.heap.size + 1 + 1 by simp] at this
    exact this
  have HN : Hid (Nms W3 na p.1.ns) := hv.nms.below hbW
  have HCp : Hid (Cap na p.1.ns.length nc) := hv.nc
  have HSz : Hid (W3.heap.size = W.heap.size + 3) := by have := HW3.out; subst this; show _ = _; simp
  have HV : Hid (Vl W p na nc ka kc) := hv
  have HI : Hid (CIh p) := ih
  have HW : Hid (WfV p) := hwf
  have HS : Hid (ws p ≤ 100000) := hws
  clear hbW hv ih hwf hws
  go_enter Tryz.func27, Tryz.ntmps27
  go_wp2_with (at_builtin; go_must (generalize hWW : World.alloc (World.alloc (World.alloc W _) _) _ = W9; obtain rfl : W3 = W9 := (by rw [← hWW, ← HW3.out]); clear hWW HW3; refine app_names rfl (.tmp 5) (.tmp 7) rfl (W.heap.size + 2) _ 0 [] rfl HO.out na nc p.1.ns rfl HN.out HCp.out.nil (by omega) (by rw [HSz.out]; omega) ?_))
  intro v1 w4 o1 g1 a1
  have l1 := World.ownsRow.lt o1
  obtain ⟨na1, nc1, Ln, rfl, nm1, cp1, ob1, nd1⟩ := nml_of o1
  have HB4 : Hid (Blk w4 W.heap.size 41 (six p.1 na nc ka p.2.list.length kc)) := HB1.out.kept g1 (by simp [Value.ownBlock]; omega)
  have HB5 : Hid (Blk w4 (W.heap.size + 1) 41 zer) := HB2.out.kept g1 (by simp [Value.ownBlock])
  have HBl : Hid (Below W.heap.size W w4) := HBW.out.grown g1 HBW.out.size (by intro x hx; simp [Value.ownBlock] at hx; omega)
  have HN4 : Hid (NmL w4 na1 p.1.ns Ln) := nm1
  have HR4 : Hid (Cap na1 p.1.ns.length nc1 ∧ Ln.Nodup ∧ ∀ x ∈ Ln, W.heap.size + 2 ≤ x ∧ x < w4.heap.size) := ⟨cp1, nd1, fun x hx => l1 x (ob1 x hx)⟩
  clear o1 g1 a1 l1 nm1 cp1 ob1 nd1 HB1 HB2 HBW HN HO HSz
  go_wp2_with (refine st_one rfl 38 (.tmp 9) (.tmp 8) rfl W.heap.size 4 41 _ _ rfl rfl rfl rfl (by simp [six]) HB4.out s22 ?_)
  intro w5 b5 g5
  have HI0 : Hid (CInv W p na1 nc1 ka kc Ln 0 (.slice none 0 0) [] [] w5) := by
    have e1 := HR4.out
    refine ⟨HBl.out.grown g5 HBl.out.size (by intro x hx; injection hx with hx; omega), b5, HB5.out.kept g5 (by simp), World.ownsRow_nil _ _ _ _, ⟨rfl, rfl⟩, HN4.out.keep fun x hx => ?_, e1.1, fun x hx => ?_, by simpa using e1.2.1⟩
    · have := e1.2.2 x hx
      exact g5.block x this.2 (by intro c; injection c with c; omega)
    · simp only [List.append_nil] at hx
      have := e1.2.2 x hx
      exact ⟨this.1, Nat.lt_of_lt_of_le this.2 g5.size, by simp [Value.ownBlock]⟩
  clear b5 g5 HB4 HB5 HBl HN4 HR4 HCp
  go_wp2
  go_loopw [3, 4] (fun vs i wr => ∃ (k : Nat) (cs : List Value) (L : List Nat), k ≤ p.2.list.length ∧ i = .int .i64 (k : Int) ∧ Hid (CInv W p na1 nc1 ka kc Ln k vs cs L wr)) (fun _ i _ => p.2.list.length - (intOf i).toNat)
  case atStart => exact ⟨0, [], [], by omega, rfl, HI0.out⟩
  case round =>
    clear HI0
    obtain ⟨k, cs, L, hk, rfl, HC⟩ := hrel
    have c5 : wr.cell? ⟨W.heap.size, 5, none⟩ = some (.slice ka p.2.list.length kc) := HC.out.b1.cell 5
    by_cases hlt : k < p.2.list.length
    case neg =>
      obtain rfl : k = p.2.list.length := by omega
      obtain ⟨ka', kc', rfl⟩ := HC.out.shape
      have HB : Hid (Blk wr W.heap.size 41 (six p.1 na1 nc1 ka p.2.list.length kc)) := HC.out.b1
      go_wp2_with (refine st_one rfl 39 (.tmp 27) (.tmp 26) rfl W.heap.size 5 41 _ _ rfl rfl rfl rfl (by simp [six]) HB.out s23 ?_)
      intro w7 b7 g7
      have HB7 : Hid (Blk w7 (W.heap.size + 1) 41 zer) := HC.out.b2.kept g7 (by simp)
      have HG7 : Hid (wr.grownBy w7 (some W.heap.size)) := g7
      have d0 : w7.cell? ⟨W.heap.size, 0, none⟩ = some (.int .i64 p.1.k) := b7.cell 0
      have d1 : w7.cell? ⟨W.heap.size, 1, none⟩ = some (.int .i64 p.1.n) := b7.cell 1
      have d2 : w7.cell? ⟨W.heap.size, 2, none⟩ = some (.int .i64 p.1.s) := b7.cell 2
      have d3 : w7.cell? ⟨W.heap.size, 3, none⟩ = some (.string p.1.t) := b7.cell 3
      have d4 : w7.cell? ⟨W.heap.size, 4, none⟩ = some (.slice na1 p.1.ns.length nc1) := b7.cell 4
      have d5 : w7.cell? ⟨W.heap.size, 5, none⟩ = some (.slice ka' p.2.list.length kc') := b7.cell 5
      clear b7 g7 HB c5
      go_wp2_with (refine st_all rfl 41 (.tmp 2) (.tmp 28) rfl (W.heap.size + 1) 41 zer (six p.1 na1 nc1 ka' p.2.list.length kc') rfl rfl HB7.out rfl s25 (six_one _ _ _ _ _ _) ?_)
      intro w8 b8 g8
      have HG8 : Hid (w7.grownBy w8 (some (W.heap.size + 1))) := g8
      have HB8 : Hid (Blk w8 (W.heap.size + 1) 41 (six p.1 na1 nc1 ka' p.2.list.length kc')) := b8
      clear b8 g8
      have HD : Hid (∃ L, VlL w8 p na1 nc1 ka' kc' L ∧ (∀ x ∈ L, W.heap.size ≤ x ∧ x < w8.heap.size) ∧ L.Nodup ∧ Below W.heap.size W w8) := by
        have z1 := HG7.out.size
        have z2 := HG8.out.size
        obtain ⟨L', y1, y2, y3⟩ := HC.out.done (w' := w8) (fun x hx hx2 => by
          rw [HG8.out.block x (by omega) (by intro c; injection c with c; omega), HG7.out.block x hx2 (by intro c; injection c with c; omega)]) (by omega) rfl
        have y4 := HC.out.below.grown HG7.out HC.out.below.size (by intro x hx; injection hx with hx; omega)
        have y5 := y4.grown HG8.out y4.size (by intro x hx; injection hx with hx; omega)
        exact ⟨L', y1, y2, y3, y5⟩
      clear HG7 HG8 HB7 HC
      go_wp2
      refine bodyPost_ret (res_row rfl _ (W.heap.size + 1) 41 _ _ rfl HB8.out Tryz.underlying41 rfl s25) rfl ?_
      exact ⟨na1, nc1, ka', kc', rfl, HD.out⟩
    obtain ⟨q, b, o, na', nc', ka', kc', hq, rfl, hnd, hvl⟩ := HV.out.kid HC.out.below (k := k) hlt
    have HQ := HI.out q (wt_kid (List.mem_of_getElem? hq)) (HW.out.kid (List.mem_of_getElem? hq)) (by have h1 := ws_mem (List.mem_of_getElem? hq); have h2 := HS.out; simp only [ws] at h1 h2 ⊢; omega) na' nc' ka' kc' wr hvl
    have HQq : Hid (p.2.list[k]? = some q) := hq
    obtain ⟨c0', c1', c2', c3', c4', c5'⟩ := hnd
    clear hvl hq
    go_wp2_with fail
    refine HQ.mono ?_
    clear HQ c0' c1' c2' c3' c4' c5'
    rintro e w1 ⟨na5, nc5, ka5, kc5, rfl, H5⟩
    have HX : Hid (∃ Lq, VlL w1 q na5 nc5 ka5 kc5 Lq ∧ (∀ x ∈ Lq, wr.heap.size ≤ x ∧ x < w1.heap.size) ∧ Lq.Nodup ∧ Below wr.heap.size wr w1) := H5.out
    have HO2 : Hid ((w1.alloc (.cells #[.int .i64 q.1.k, .int .i64 q.1.n, .int .i64 q.1.s, .string q.1.t, .slice na5 q.1.ns.length nc5, .slice ka5 q.2.list.length kc5] 41)).ownsRow (W.heap.size + 2) 41 6 u3 k cs) := by
      obtain ⟨Lq, _, _, _, hb⟩ := HX.out
      exact (World.ownsRow.kept (row := none) HC.out.own ⟨hb.os, hb.tape, hb.output, hb.size, fun x hx _ => hb.block x hx⟩ (by simpa using Classical.em _)).alloc _
    have HZ : Hid (W.heap.size + 2 ≤ (w1.alloc (.cells #[.int .i64 q.1.k, .int .i64 q.1.n, .int .i64 q.1.s, .string q.1.t, .slice na5 q.1.ns.length nc5, .slice ka5 q.2.list.length kc5] 41)).heap.size) := by
      obtain ⟨Lq, _, _, _, hb⟩ := HX.out
      have z1 := hb.size
      have z2 := HC.out.b2.lt
      show _ ≤ _
      simp
      omega
    clear H5
    go_wp2_with (at_builtin; go_must (refine app_kids rfl (.tmp 17) (.tmp 24) rfl (W.heap.size + 2) u3 k cs rfl HO2.out w1.heap.size 1 1 (six q.1 na5 nc5 ka5 q.2.list.length kc5) rfl rfl (fun j u hj => by rw [World.cell?_alloc_new]; show (six q.1 na5 nc5 ka5 q.2.list.length kc5).toArray[j]? = some u; rw [List.getElem?_toArray]; exact hj) (six_one _ _ _ _ _ _) (by omega) HZ.out ?_))
    intro v2 w3 o2 g2 a2
    have HC2 : Hid (∃ cs' L', CInv W p na1 nc1 (some ⟨b, o, none⟩) kc Ln (k + 1) v2 cs' L' w3) := by
      obtain ⟨Lq, y1, y2, y3, hb⟩ := HX.out
      exact ⟨_, _, HC.out.step HQq.out hb y1 y2 y3 _ g2 o2 a2⟩
    clear o2 g2 a2 HX HO2 HZ HC HQq c5
    go_wp2
    go_roundw
    case rel =>
      obtain ⟨cs', L', h⟩ := HC2.out
      exact ⟨k + 1, cs', L', by omega, by go_num, h⟩
    case measure => simp [intOf]; omega
theorem clone_any : ∀ (N : Nat) (p : Vt), wt p ≤ N → WfV p → ws p ≤ 100000 → ∀ (na : Option Addr) (nc : Nat) (ka : Option Addr) (kc : Nat) (W : World), Vl W p na nc ka kc →
    Calls Tryz.prog 27 #[.agg #[.int .i64 p.1.k, .int .i64 p.1.n, .int .i64 p.1.s, .string p.1.t, .slice na p.1.ns.length nc, .slice ka p.2.list.length kc]] W fun e w' => ∃ na' nc' ka' kc', e = .returned (.agg #[.int .i64 p.1.k, .int .i64 p.1.n, .int .i64 p.1.s, .string p.1.t, .slice na' p.1.ns.length nc', .slice ka' p.2.list.length kc']) ∧ Hid (∃ L, VlL w' p na' nc' ka' kc' L ∧ (∀ x ∈ L, W.heap.size ≤ x ∧ x < w'.heap.size) ∧ L.Nodup ∧ Below W.heap.size W w') := by
  intro N
  induction N with
  | zero => intro p hp; exfalso; unfold wt at hp; omega
  | succ N ih =>
    intro p hp hwf hws na nc ka kc W hv
    exact clone_step p (fun q hq hwq hwsq na nc ka kc W h => ih q (by omega) hwq hwsq na nc ka kc W h) hwf hws na nc ka kc W hv
end Go.Proofs.YtlefdnjokppibaaGreatDoor
