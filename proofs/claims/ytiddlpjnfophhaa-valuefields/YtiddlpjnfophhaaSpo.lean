/-
  What a spoiling of a value leaves.
-/
import Derived.Test.YtiddlpjnfophhaaRfl
namespace Go.Proofs.Ytiddlpjnfophhaa
open Go.RowKit
set_option linter.unusedVariables false
/-- Nothing but these blocks has changed. -/
structure Only (w w' : World) (L : List Nat) : Prop where
  os : w'.os = w.os
  tape : w'.tape = w.tape
  output : w'.output = w.output
  size : w.heap.size ≤ w'.heap.size
  block : ∀ x, x < w.heap.size → x ∉ L → w'.heap[x]? = w.heap[x]?
theorem Only.refl (w : World) (L : List Nat) : Only w w L := ⟨rfl, rfl, rfl, Nat.le_refl _, fun _ _ _ => rfl⟩
theorem Only.trans {w w1 w2 : World} {L : List Nat} (h : Only w w1 L) (h2 : Only w1 w2 L) : Only w w2 L :=
  ⟨h2.os.trans h.os, h2.tape.trans h.tape, h2.output.trans h.output, Nat.le_trans h.size h2.size, fun x hx hn => (h2.block x (Nat.lt_of_lt_of_le hx h.size) hn).trans (h.block x hx hn)⟩
theorem Only.mono {w w1 : World} {L L' : List Nat} (h : Only w w1 L) (hL : ∀ x ∈ L, x ∈ L') : Only w w1 L' :=
  ⟨h.os, h.tape, h.output, h.size, fun x hx hn => h.block x hx fun e => hn (hL x e)⟩
theorem Only.set (w : World) (b o : Nat) (vs : List Value) {L : List Nat} (hb : b ∈ L) : Only w (w.setCells b o vs) L := by
  have g := grown_setCells b vs o w
  exact ⟨g.os, g.tape, g.output, g.size, fun x hx hn => g.block x hx (by intro e; injection e with e; rw [e] at hn; exact hn hb)⟩
theorem Only.below {w w' : World} {L : List Nat} {B : Nat} (h : Only w w' L) (hL : ∀ x ∈ L, B ≤ x) (hB : B ≤ w.heap.size) : Below B w w' :=
  ⟨h.os, h.tape, h.output, h.size, fun x hx => h.block x (by omega) fun e => by have := hL x e; omega⟩
theorem there_keep {w w' : World} {b o n : Nat} (h : w.there b o n) (hk : w'.heap[b]? = w.heap[b]?) : w'.there b o n := fun j hj => by
  rw [cell_keep hk, World.frozen?_of_block (a := ⟨b, o + j, none⟩) hk]
  exact h j hj
theorem Fo.drop_one {f : Fo} {k : Nat} {q : Vt} (h : f.list[k]? = some q) : f.drop k = .cons q.1 q.2 (f.drop (k + 1)) := Fo.drop_at f k q h
structure SInv (W : World) (p : Vt) (na : Option Addr) (nc : Nat) (ka : Option Addr) (kc : Nat) (L : List Nat) (k : Nat) (wr : World) : Prop where
  only : Only W wr L
  b1 : Blk wr W.heap.size 25 (six p.1 na nc ka p.2.list.length kc)
  nms : p.1.ns.length = 0 ∨ ∃ bn on, na = some ⟨bn, on, none⟩ ∧ wr.there bn on p.1.ns.length ∧ bn ∈ L ∧ bn < W.heap.size
  kids : p.2.list.length = 0 ∨ ∃ b o ks L2, ka = some ⟨b, o, none⟩ ∧ wr.there b o (p.2.list.length * 6) ∧ b ∈ L ∧ b < W.heap.size ∧ (∀ x ∈ L2, x ∈ L ∧ x < W.heap.size) ∧ (b :: L2).Nodup ∧ Lay wr (p.2.drop k) ks L2 ∧ (∀ j u, ks[j]? = some u → wr.cell? ⟨b, o + k * 6 + j, none⟩ = some u) ∧ (p.1.ns.length ≠ 0 → ∀ bn on, na = some ⟨bn, on, none⟩ → bn ≠ b ∧ bn ∉ L2)
theorem SInv.start {W W1 : World} {p : Vt} {na : Option Addr} {nc : Nat} {ka : Option Addr} {kc : Nat} {L : List Nat} (hv : VlL W p na nc ka kc L) (hn : L.Nodup) (hl : ∀ x ∈ L, x < W.heap.size) (h1 : W1 = W.alloc (.cells (six p.1 na nc ka p.2.list.length kc).toArray 25)) : SInv W p na nc ka kc L 0 W1 := by
  subst h1
  have hk : ∀ x, x < W.heap.size → (W.alloc (.cells (six p.1 na nc ka p.2.list.length kc).toArray 25)).heap[x]? = W.heap[x]? := fun x hx => (World.grownBy_alloc W _ none).block x hx (by simp)
  obtain ⟨Ln, Lk, rfl, hnm, hcn, hck, hkd⟩ := hv
  have hnd := List.nodup_append.1 hn
  refine ⟨⟨rfl, rfl, rfl, by simp, fun x hx _ => hk x hx⟩, blk_new W 25 _, ?_, ?_⟩
  · rcases hnm with h | ⟨bn, on, e, rfl, hf, hc⟩
    · left; rw [h.1]; rfl
    · have hbl := hl bn (by simp)
      refine .inr ⟨bn, on, e, there_keep (fun j hj => ⟨?_, hf _⟩) (hk bn hbl), by simp, hbl⟩
      rw [hc j _ (List.getElem?_eq_getElem hj)]; rfl
  · rcases hkd with h | ⟨b, o, ks, L', e, rfl, hf, hc, hlay⟩
    · left; rw [h.1]; rfl
    · have hbl := hl b (by simp)
      refine .inr ⟨b, o, ks, L', e, there_keep (fun j hj => ⟨?_, hf _⟩) (hk b hbl), by simp, hbl, fun x hx => ⟨by simp [hx], hl x (by simp [hx])⟩, hnd.2.1, ?_, ?_, ?_⟩
      · rw [hc j _ (List.getElem?_eq_getElem (by rw [hlay.len]; exact hj))]; rfl
      · exact Lay.keep _ hlay fun x hx => hk x (hl x (by simp [hx]))
      · intro j u hj
        simp only [Nat.zero_mul, Nat.add_zero]
        rw [cell_keep (hk b hbl)]
        exact hc j u hj
      · intro hn0 bn on en
        rcases hnm with h | ⟨bn', on', e', rfl, _, _⟩
        · rw [h.1] at hn0; simp at hn0
        · rw [en] at e'
          injection e' with e'
          injection e' with e1 e2
          subst e1
          refine ⟨fun c => hnd.2.2 bn (by simp) b (by simp) c, fun c => hnd.2.2 bn (by simp) bn (by simp [c]) rfl⟩
theorem SInv.name {W wr : World} {p : Vt} {na : Option Addr} {nc : Nat} {ka : Option Addr} {kc : Nat} {L : List Nat} (h : SInv W p na nc ka kc L 0 wr) {bn on : Nat} (hna : na = some ⟨bn, on, none⟩) (h0 : p.1.ns.length ≠ 0) (i : Nat) (v : Value) : SInv W p na nc ka kc L 0 (wr.setCells bn i [v]) := by
  obtain ⟨bn', on', e, hth, hbL, hbl⟩ := h.nms.resolve_left h0
  rw [hna] at e
  injection e with e
  injection e with e1 e2
  subst e1 e2
  have g := grown_setCells bn [v] i wr
  have hk : ∀ x, x < wr.heap.size → x ≠ bn → (wr.setCells bn i [v]).heap[x]? = wr.heap[x]? := fun x hx hne => g.block x hx (by intro c; injection c with c; exact hne c)
  have hs := h.only.size
  refine ⟨h.only.trans (Only.set _ _ _ _ hbL), ?_, .inr ⟨bn, on, hna, World.there_setCells hth _ _ _, hbL, hbl⟩, ?_⟩
  · unfold Blk; rw [hk _ h.b1.lt (by omega)]; exact h.b1
  · rcases h.kids with h1 | ⟨b, o, ks, L2, e, ht, k1, k2, k3, k4, k5, k6, k7⟩
    · exact .inl h1
    · obtain ⟨n1, n2⟩ := k7 h0 bn on hna
      have hb := hk b (by omega) (fun c => n1 c.symm)
      refine .inr ⟨b, o, ks, L2, e, World.there_setCells ht _ _ _, k1, k2, k3, k4, Lay.keep _ k5 fun x hx => hk x (by have := (k3 x hx).2; omega) (fun c => n2 (c ▸ hx)), fun j u hj => ?_, k7⟩
      rw [cell_keep hb]
      exact k6 j u hj
theorem SInv.get {W wr : World} {p q : Vt} {na : Option Addr} {nc : Nat} {ka : Option Addr} {kc : Nat} {L : List Nat} {k : Nat} (h : SInv W p na nc ka kc L k wr) (hq : p.2.list[k]? = some q) :
    ∃ b o na' nc' ka' kc' Lq, ka = some ⟨b, o, none⟩ ∧ Nd wr b (o + k * 6) q.1 na' nc' ka' q.2.list.length kc' ∧ VlL wr q na' nc' ka' kc' Lq ∧ Lq.Nodup ∧ (∀ x ∈ Lq, x < wr.heap.size) ∧
      ∀ w1, Only wr w1 Lq → w1.cell? ⟨W.heap.size, 5, none⟩ = some (.slice ka p.2.list.length kc) ∧ w1.there b (o + k * 6) 6 ∧ ∀ vs : List Value, vs.length = 6 → SInv W p na nc ka kc L (k + 1) (w1.setCells b (o + k * 6) vs) := by
  have hlen := (List.getElem?_eq_some_iff.1 hq).1
  obtain ⟨b, o, ks, L2, e, ht, k1, k2, k3, k4, k5, k6, k7⟩ := h.kids.resolve_left (by omega)
  rw [Fo.drop_one hq] at k5
  obtain ⟨na', nc', ka', kc', cs', Lq, L3, rfl, rfl, hvq, hrest⟩ := lay_cons.1 k5
  have nd0 := List.nodup_cons.1 k4
  have nd1 := List.nodup_append.1 nd0.2
  have hs := h.only.size
  refine ⟨b, o, na', nc', ka', kc', Lq, e, nd_six fun j u hj => k6 j u (by rw [List.getElem?_append_left (List.getElem?_eq_some_iff.1 hj).1]; exact hj), hvq, nd1.1, fun x hx => by have := (k3 x (by simp [hx])).2; omega, fun w1 ho => ?_⟩
  have s1 := ho.size
  have hbq : b ∉ Lq := fun c => nd0.1 (by simp [c])
  have hb1 : w1.heap[b]? = wr.heap[b]? := ho.block b (by omega) hbq
  have hth := there_keep ht hb1
  refine ⟨?_, fun j hj => ?_, fun vs hvs => ?_⟩
  · rw [cell_keep (ho.block _ h.b1.lt fun c => by have := (k3 _ (List.mem_append_left _ c)).2; omega)]
    exact h.b1.cell 5
  · have := hth (k * 6 + j) (by omega)
    rw [← Nat.add_assoc] at this
    exact this
  have g := grown_setCells b vs (o + k * 6) w1
  have hk : ∀ x, x < w1.heap.size → x ≠ b → (w1.setCells b (o + k * 6) vs).heap[x]? = w1.heap[x]? := fun x hx hne => g.block x hx (by intro c; injection c with c; exact hne c)
  have hk2 : ∀ x, x < wr.heap.size → x ≠ b → x ∉ Lq → (w1.setCells b (o + k * 6) vs).heap[x]? = wr.heap[x]? := fun x hx hne hnq => by rw [hk x (by omega) hne, ho.block x hx hnq]
  have hb0 := h.b1.lt
  refine ⟨(h.only.trans (ho.mono fun x hx => (k3 x (by simp [hx])).1)).trans (Only.set _ _ _ _ k1), ?_, ?_, .inr ⟨b, o, cs', L3, e, World.there_setCells hth _ _ _, k1, k2, fun x hx => k3 x (by simp [hx]), List.nodup_cons.2 ⟨fun c => nd0.1 (by simp [c]), nd1.2.1⟩, ?_, ?_, fun h0 bn on en => ?_⟩⟩
  · unfold Blk
    rw [hk2 _ hb0 (by omega) (fun c => by have := (k3 _ (List.mem_append_left _ c)).2; omega)]
    exact h.b1
  · rcases h.nms with h1 | ⟨bn, on, en, hn1, hn2, hn3⟩
    · exact .inl h1
    · by_cases h0 : p.1.ns.length = 0
      · exact .inl h0
      · obtain ⟨c1, c2⟩ := k7 h0 bn on en
        exact .inr ⟨bn, on, en, there_keep hn1 (hk2 bn (by omega) c1 (fun c => c2 (by simp [c]))), hn2, hn3⟩
  · refine Lay.keep _ hrest fun x hx => hk2 x (by have := (k3 x (by simp [hx])).2; omega) (fun c => nd0.1 (by rw [← c]; simp [hx])) (fun c => nd1.2.2 x c x hx rfl)
  · intro j u hj
    rw [World.cell?_setCells_out b vs (o + k * 6) w1 _ (fun _ _ => Or.inr (by simp only [hvs]; omega)), cell_keep hb1]
    have := k6 (6 + j) u (by rw [List.getElem?_append_right (by rw [six_length]; omega), six_length, Nat.add_sub_cancel_left]; exact hj)
    rw [show o + k * 6 + (6 + j) = o + (k + 1) * 6 + j by omega] at this
    exact this
  · obtain ⟨c1, c2⟩ := k7 h0 bn on en
    exact ⟨c1, fun c => c2 (by simp [c])⟩
theorem st_at {P : Program} {ops : Array Oper} {rest : List Oper} {o : Oper} {a : Act} {w : World} {Q : Exit → Act → World → Prop} (hg : o.guard = none) (ty : TypeId) (x y : Operand) (ho : o.op = .store ty x y) (b i : Nat) (v : Value)
    (hx : a.eval x = .pointer (some ⟨b, i, none⟩)) (hy : a.eval y = v) (hv : v.cells = #[v]) (hv1 : v.oneCell' = true) (ht : w.there b i 1) (hs : (P.info? ty).map (·.size) = some 1)
    (h : ∀ w', w' = w.setCells b i [v] → wpList P ops Q rest (a.put o.dst undef) w') : wpList P ops Q (o :: rest) a w := by
  have hst := run_storeCells_cells (P := P) b i [v] 0 w (fun j hj => by
      have : j = 0 := by simpa using hj
      subst this
      exact (ht 0 (by omega)).1) (fun j hj => by
      have : j = 0 := by simpa using hj
      subst this
      exact (ht 0 (by omega)).2) (by simp [hv1])
  refine wpList_plain hg fun K hK => ?_
  unfold Oper.wp execOp
  cases hq : P.info? ty with
  | none => simp [hq] at hs
  | some q1 =>
    have hq1 : q1.size = 1 := by simpa [hq] using hs
    simp only [Nat.add_zero] at hst
    have hsv : (storeVar ty ⟨b, i, none⟩ v).run P w = .ok () (w.setCells b i [v]) := by
      simp [storeVar, Go.sizeOf, typeInfo, hq, hv, hq1, hst]
    simp only [ho, hx, hy, Instr.storeAt, Instr.sureAddr, Sem.run_bind, Sem.run_pure, Result.andThen_ok, hsv]
    exact hK _ _ (h _ rfl)
end Go.Proofs.Ytiddlpjnfophhaa
