/-
  Rows of values for copyOf: where they come from, and what a round leaves.
-/
import Derived.Test.YtiddlpjnfophhaaClo
import Derived.Test.YtiddlpjnfophhaaOrz
namespace Go.Proofs.Ytiddlpjnfophhaa
open Go.RowKit
set_option linter.unusedVariables false
/-- Cells of values, one behind the other. -/
def Src (w : World) : Fo → List Value → Prop
  | .nil, cs => cs = []
  | .cons h k r, cs => ∃ na nc ka kc cs', cs = six h na nc ka k.list.length kc ++ cs' ∧ Vl w (h, k) na nc ka kc ∧ Src w r cs'
theorem src_at {w : World} : ∀ {f : Fo} {b o : Nat}, At w f b o → ∃ cs, Src w f cs ∧ cs.length = f.list.length * 6 ∧ ∀ j u, cs[j]? = some u → w.cell? ⟨b, o + j, none⟩ = some u
  | .nil, _, _, _ => ⟨[], rfl, rfl, fun j u hj => by simp at hj⟩
  | .cons h k r, b, o, ⟨⟨na, nc, ka, kc, h1, h2, h3, h4, h5⟩, h6⟩ => by
    obtain ⟨cs, c1, c2, c3⟩ := src_at h6
    refine ⟨six h na nc ka k.list.length kc ++ cs, ⟨na, nc, ka, kc, cs, rfl, ⟨h2, h3, h4, h5⟩, c1⟩, ?_, fun j u hj => ?_⟩
    · rw [List.length_append, c2, six_length]; simp only [Fo.list, List.length_cons]; omega
    · by_cases hl : j < 6
      · rw [List.getElem?_append_left (by rw [six_length]; exact hl)] at hj
        obtain ⟨d0, d1, d2, d3, d4, d5⟩ := h1
        match j, hl, hj with
        | 0, _, hj => cases hj; exact d0
        | 1, _, hj => cases hj; exact d1
        | 2, _, hj => cases hj; exact d2
        | 3, _, hj => cases hj; exact d3
        | 4, _, hj => cases hj; exact d4
        | 5, _, hj => cases hj; exact d5
      · rw [List.getElem?_append_right (by rw [six_length]; omega), six_length] at hj
        have := c3 (j - 6) u hj
        rw [show o + 6 + (j - 6) = o + j by omega] at this
        exact this
theorem Src.get {w : World} {q : Vt} : ∀ {f : Fo} {k : Nat} {cs : List Value}, Src w f cs → f.list[k]? = some q → ∃ na nc ka kc, Vl w q na nc ka kc ∧ cs.drop (k * 6) = six q.1 na nc ka q.2.list.length kc ++ cs.drop ((k + 1) * 6)
  | .nil, k, _, _, hk => by simp [Fo.list] at hk
  | .cons h kk r, 0, cs, ⟨na, nc, ka, kc, cs', e, hv, hs⟩, hk => by
    simp only [Fo.list, List.getElem?_cons_zero, Option.some.injEq] at hk
    subst hk e
    exact ⟨na, nc, ka, kc, hv, by simp [six]⟩
  | .cons h kk r, k + 1, cs, ⟨na, nc, ka, kc, cs', e, hv, hs⟩, hk => by
    simp only [Fo.list, List.getElem?_cons_succ] at hk
    obtain ⟨na', nc', ka', kc', h1, h2⟩ := Src.get hs hk
    refine ⟨na', nc', ka', kc', h1, ?_⟩
    subst e
    have d : ∀ n, (six h na nc ka kk.list.length kc ++ cs').drop ((n + 1) * 6) = cs'.drop (n * 6) := fun n => by
      rw [List.drop_append, List.drop_of_length_le (by rw [six_length]; omega), List.nil_append, six_length]
      congr 1
      omega
    rw [d, d]
    exact h2
theorem src_one {w : World} : ∀ {f : Fo} {cs : List Value}, Src w f cs → ∀ u ∈ cs, u.oneCell' = true
  | .nil, cs, h, u, hu => by rw [h] at hu; cases hu
  | .cons h k r, cs, ⟨na, nc, ka, kc, cs', e, hv, hs⟩, u, hu => by
    rw [e] at hu
    rcases List.mem_append.1 hu with hu | hu
    · exact six_one _ _ _ _ _ _ u hu
    · exact src_one hs u hu
theorem app_src {ops : Array Oper} {rest : List Oper} {o : Oper} {a : Act} {Q : Exit → Act → World → Prop} {w : World} (hgd : o.guard = none) (s x : Operand)
    (ho : o.op = .call { callee := .builtin .append, args := #[s, x], argTypes := #[23, 23] })
    (base : Nat) (v : Value) (n : Nat) (xs : List Value) (hs : a.eval s = v) (hown : w.ownsRow base 25 6 v n xs) (ax : Option Addr) (m c : Nat) (news : List Value) (hx : a.eval x = .slice ax m c) (hl : news.length = m * 6) (hc : ∀ ad, ax = some ad → ∀ j u, news[j]? = some u → w.cell? (ad.add j) = some u) (hnil : ax = none → c = 0 ∧ m = 0) (h1 : ∀ u ∈ news, u.oneCell' = true)
    (hb : n + m ≤ 100000) (hbase : base ≤ w.heap.size)
    (h : ∀ v' w', w'.ownsRow base 25 6 v' (n + m) (xs ++ news) → w.grownBy w' v.ownBlock → (v'.ownBlock = v.ownBlock ∨ v'.ownBlock = some w.heap.size) → wpList Try.prog ops Q rest (a.put o.dst v') w') : wpList Try.prog ops Q (o :: rest) a w := by
  refine wpList_plain hgd fun K hK => ?_
  obtain ⟨i, hi, hz0, hz1, hz2⟩ := info_parts Try.info25
  cases ax with
  | none =>
    obtain ⟨rfl, rfl⟩ := hnil rfl
    have hl : news = [] := List.eq_nil_of_length_eq_zero (by simpa using hl)
    subst hl
    have hr := run_append_owned_none (P := Try.prog) (w := w) base 23 o.type 25 i 6 Try.underlying23 hi v _ _ hown
    unfold Oper.wp execOp
    simp only [ho, resolve, invoke, builtin, Sem.run_bind, Sem.run_pure, Result.andThen_ok, List.map_toArray, List.map_cons, List.map_nil, hs, hx, hr]
    exact hK _ _ (h v w (by simpa using hown) (World.grownBy.refl _ _) (.inl rfl))
  | some ad =>
    obtain ⟨v', w', r1, r2, r3, _, r5⟩ := run_append_own_at (P := Try.prog) w base 23 o.type 25 i _ 6 88 Try.underlying23 hi hz0 hz1 hz2 rfl (by decide) v _ _ hown ad m c news hl (hc ad rfl) h1 (by unfold maxLen; omega) (by omega) hbase
    unfold Oper.wp execOp
    simp only [ho, resolve, invoke, builtin, Sem.run_bind, Sem.run_pure, Result.andThen_ok, List.map_toArray, List.map_cons, List.map_nil, hs, hx, r1]
    exact hK _ _ (h v' w' r2 r3 r5)
theorem oper_calls {o : Oper} {a : Act} {w : World} {K : Act → World → Prop} {Q : Exit → Act → World → Prop} (k : Nat) (xs : Array Operand) (ts : Array TypeId)
    (hop : o.op = Op.call { callee := Callee.value (Operand.func k), args := xs, argTypes := ts }) (args : Array Value) (hargs : xs.map a.eval = args)
    (hent : ∀ (args : Array Value) (w : World), (callFunc k args).run Try.prog w = .ok (.enter k args) w) (R : Value → World → Prop)
    (hc : Calls Try.prog k args w fun e w' => ∃ v, e = .returned v ∧ R v w') (hK : ∀ v w', R v w' → K (a.put o.dst v) w') : Oper.wp Try.prog o a w K Q := by
  unfold Oper.wp
  have : (execOp a.eval o).run Try.prog w = .ok (.enter k args) w := by
    simp [execOp, hop, resolve, invoke, Act.eval, hargs, hent, Deferred.ofValue]
  rw [this, Oper.upon_enter]
  refine hc.mono ?_
  rintro e w' ⟨v, rfl, hr⟩
  exact hK v w' hr
theorem oper_row {o : Oper} {a : Act} {w : World} {K : Act → World → Prop} {Q : Exit → Act → World → Prop} (ty : TypeId) (x y : Operand) (ho : o.op = .store ty x y) (b off : Nat) (t : TypeId) (p m q m' : List Value)
    (hx : a.eval x = .pointer (some ⟨b, off, none⟩)) (hy : a.eval y = .agg m'.toArray) (hp : p.length = off) (hb : Blk w b t (p ++ (m ++ q))) (hl : m'.length = m.length)
    (hi : (Try.prog.info? ty).map (·.size) = some m'.length) (h1 : ∀ v ∈ m', v.oneCell' = true)
    (h : ∀ w', Blk w' b t (p ++ (m' ++ q)) → w.grownBy w' (some b) → K (a.put o.dst undef) w') : Oper.wp Try.prog o a w K Q := by
  subst hp
  refine wp_store_mid ty x y ho b p.length m'.toArray hx hy (hb.there _ _ (by simp; omega)) (by simpa using hi) (all_oneCell_toArray h1) ?_
  exact h _ (by simpa using Blk.setCells q m' m p w hl hb) (by simpa using grown_setCells b m' p.length w)
/-! ### copyOf's rounds -/
structure PInv (w : World) (p : Vt) (na1 : Option Addr) (nc1 : Nat) (ka2 : Option Addr) (kc2 : Nat) (ss sp : List Value) (Ln : List Nat) (k : Nat) (cs : List Value) (L : List Nat) (wr : World) : Prop where
  below : Below w.heap.size w wr
  b1 : Blk wr w.heap.size 25 (six p.1 na1 nc1 ka2 p.2.list.length kc2)
  b2 : Blk wr (w.heap.size + 1) 25 zer
  row : (p.2.list.length = 0 ∧ ka2 = none ∧ kc2 = 0) ∨ ∃ g, ka2 = some ⟨g, 0, none⟩ ∧ Blk wr g 25 (cs ++ (ss.drop (k * 6) ++ sp)) ∧ w.heap.size + 2 ≤ g ∧ g ∉ Ln ++ L ∧ (cs ++ (ss.drop (k * 6) ++ sp)).length = kc2 * 6 ∧ kc2 ≤ maxLen
  ownN : wr.ownsRow (w.heap.size + 2) 9 1 (.slice na1 p.1.ns.length nc1) p.1.ns.length (p.1.ns.map Value.string)
  obN : ∀ x, (Value.slice na1 p.1.ns.length nc1).ownBlock = some x → x < wr.heap.size ∧ x ∉ L ∧ ka2 ≠ some ⟨x, 0, none⟩
  capk : Cap ka2 p.2.list.length kc2
  lay : Lay wr (p.2.take k) cs L
  nm : NmL wr na1 p.1.ns Ln
  capn : Cap na1 p.1.ns.length nc1
  rng : ∀ x ∈ Ln ++ L, w.heap.size + 2 ≤ x ∧ x < wr.heap.size
  nd : (Ln ++ L).Nodup
theorem take_len : ∀ (f : Fo) (k : Nat), k ≤ f.list.length → (f.take k).list.length = k
  | _, 0, _ => rfl
  | .nil, k + 1, h => by simp [Fo.list] at h
  | .cons h kk r, k + 1, hk => by
    simp only [Fo.list, List.length_cons] at hk
    simp only [Fo.take, Fo.list, List.length_cons]
    rw [take_len r k (by omega)]
theorem PInv.step {w : World} {p q : Vt} {na1 : Option Addr} {nc1 : Nat} {ka2 : Option Addr} {kc2 : Nat} {ss sp : List Value} {Ln : List Nat} {k : Nat} {cs : List Value} {L : List Nat} {wr w1 w3 : World} {g : Nat} {na' : Option Addr} {nc' : Nat} {ka' : Option Addr} {kc' : Nat} {Lq : List Nat}
    (h : PInv w p na1 nc1 ka2 kc2 ss sp Ln k cs L wr) (hg : ka2 = some ⟨g, 0, none⟩) (hq : p.2.list[k]? = some q) (hg2 : w.heap.size + 2 ≤ g) (hg3 : g ∉ Ln ++ L) (hgl : g < wr.heap.size) (hb : Below wr.heap.size wr w1) (hv : VlL w1 q na' nc' ka' kc' Lq) (hr : ∀ x ∈ Lq, wr.heap.size ≤ x ∧ x < w1.heap.size) (hn : Lq.Nodup)
    (gr : w1.grownBy w3 (some g)) (hrow : Blk w3 g 25 (cs ++ (six q.1 na' nc' ka' q.2.list.length kc' ++ (ss.drop ((k + 1) * 6) ++ sp)))) (hlen : (cs ++ (six q.1 na' nc' ka' q.2.list.length kc' ++ (ss.drop ((k + 1) * 6) ++ sp))).length = kc2 * 6) (hcm : kc2 ≤ maxLen) :
    PInv w p na1 nc1 ka2 kc2 ss sp Ln (k + 1) (cs ++ six q.1 na' nc' ka' q.2.list.length kc') (L ++ Lq) w3 := by
  have s0 := h.b2.lt
  have s1 := hb.size
  have s3 := gr.size
  have k1 : ∀ x, x < w1.heap.size → x ≠ g → w3.heap[x]? = w1.heap[x]? := fun x hx hne => gr.block x hx (by intro e; injection e with e; exact hne e)
  have k2 : ∀ x, x < wr.heap.size → x ≠ g → w3.heap[x]? = wr.heap[x]? := fun x hx hne => by rw [k1 x (by omega) hne, hb.block x hx]
  have b2 : Below w.heap.size w w1 := h.below.trans (hb.mono h.below.size)
  have hne : ∀ x ∈ Ln ++ L, x ≠ g := fun x hx e => hg3 (e ▸ hx)
  have hneq : ∀ x ∈ Lq, x ≠ g := fun x hx e => by have := (hr x hx).1; omega
  refine ⟨?_, ?_, ?_, .inr ⟨g, hg, ?_, hg2, ?_, by simpa using hlen, hcm⟩, ?_, ?_, h.capk, ?_, ?_, h.capn, ?_, ?_⟩
  · exact b2.grown gr b2.size (by intro x hx; injection hx with hx; omega)
  · unfold Blk; rw [k2 _ (by omega) (by omega)]; exact h.b1
  · unfold Blk; rw [k2 _ s0 (by omega)]; exact h.b2
  · simpa using hrow
  · intro hx
    rw [← List.append_assoc] at hx
    rcases List.mem_append.1 hx with hx | hx
    · exact hg3 hx
    · exact hneq g hx rfl
  · refine World.ownsRow.kept (row := some g) (World.ownsRow.kept (row := none) h.ownN ⟨hb.os, hb.tape, hb.output, hb.size, fun x hx _ => hb.block x hx⟩ (by simpa using Classical.em _)) gr ?_
    cases hob : (Value.slice na1 p.1.ns.length nc1).ownBlock with
    | none => exact .inl rfl
    | some x => exact .inr fun e => by injection e with e; exact (h.obN x hob).2.2 (by rw [hg, e])
  · intro x hx
    obtain ⟨a1, a2, a3⟩ := h.obN x hx
    refine ⟨by omega, fun c => ?_, a3⟩
    rcases List.mem_append.1 c with c | c
    · exact a2 c
    · have := (hr x c).1; omega
  · refine Lay.snoc (hv.keep fun x hx => k1 x (hr x hx).2 (hneq x hx)) _ _ hq (Lay.keep _ h.lay fun x hx => ?_)
    have := h.rng x (by simp [hx])
    exact k2 x this.2 (hne x (by simp [hx]))
  · refine h.nm.keep fun x hx => ?_
    have := h.rng x (by simp [hx])
    exact k2 x this.2 (hne x (by simp [hx]))
  · intro x hx
    rw [← List.append_assoc] at hx
    rcases List.mem_append.1 hx with hx | hx
    · have := h.rng x hx; omega
    · have := hr x hx; have := h.below.size; omega
  · rw [← List.append_assoc, List.nodup_append]
    refine ⟨h.nd, hn, fun x hx y hy e => ?_⟩
    subst e
    have := (h.rng x hx).2
    have := (hr x hy).1
    omega
theorem PInv.done {w : World} {p : Vt} {na1 : Option Addr} {nc1 : Nat} {ka2 : Option Addr} {kc2 : Nat} {ss sp : List Value} {Ln : List Nat} {cs : List Value} {L : List Nat} {wr w' : World}
    (h : PInv w p na1 nc1 ka2 kc2 ss sp Ln p.2.list.length cs L wr) (hk : ∀ x, w.heap.size + 2 ≤ x → x < wr.heap.size → w'.heap[x]? = wr.heap[x]?) (hs : wr.heap.size ≤ w'.heap.size) :
    ∃ L', VlL w' p na1 nc1 ka2 kc2 L' ∧ (∀ x ∈ L', w.heap.size ≤ x ∧ x < w'.heap.size) ∧ L'.Nodup := by
  have hlay := h.lay
  rw [Fo.take_all _ _ (Nat.le_refl _)] at hlay
  have hnm : NmL w' na1 p.1.ns Ln := h.nm.keep fun x hx => by
    have := h.rng x (by simp [hx])
    exact hk x this.1 this.2
  have n0 := List.nodup_append.1 h.nd
  rcases h.row with h0 | ⟨g, rfl, hg, hg2, hg3, _, _⟩
  · refine ⟨Ln ++ [], ⟨Ln, [], rfl, hnm, h.capn, h.capk, .inl ⟨list_nil h0.1, rfl⟩⟩, fun x hx => ?_, by simpa using n0.1⟩
    have := h.rng x (by simp only [List.append_nil] at hx; simp [hx])
    omega
  · have hgl := hg.lt
    have hge := hk g hg2 hgl
    refine ⟨Ln ++ (g :: L), ⟨Ln, g :: L, rfl, hnm, h.capn, h.capk, .inr ⟨g, 0, cs, L, rfl, rfl, ?_, ?_, ?_⟩⟩, fun x hx => ?_, ?_⟩
    · exact Fre.keep (fun i => hg.frozen i) hge
    · intro j u hj
      rw [Nat.zero_add, cell_keep hge, hg.cell, List.getElem?_append_left (List.getElem?_eq_some_iff.1 hj).1]
      exact hj
    · refine Lay.keep _ hlay fun x hx => ?_
      have := h.rng x (by simp [hx])
      exact hk x this.1 this.2
    · rcases List.mem_append.1 hx with hx | hx
      · have := h.rng x (by simp [hx]); omega
      · rcases List.mem_cons.1 hx with rfl | hx
        · omega
        · have := h.rng x (by simp [hx]); omega
    · rw [List.nodup_append]
      refine ⟨n0.1, List.nodup_cons.2 ⟨fun hx => hg3 (by simp [hx]), n0.2.1⟩, fun x hx y hy e => ?_⟩
      subst e
      rcases List.mem_cons.1 hy with rfl | hy
      · exact hg3 (by simp [hx])
      · exact n0.2.2 x hx x hy rfl
/-- A value that the call made: its rows are the call's own. -/
structure Top (w : World) (B : Nat) (p : Vt) (na : Option Addr) (nc : Nat) (ka : Option Addr) (kc : Nat) (Ln : List Nat) (ks : List Value) (L : List Nat) : Prop where
  ownN : w.ownsRow B 9 1 (.slice na p.1.ns.length nc) p.1.ns.length (p.1.ns.map Value.string)
  ownK : w.ownsRow B 25 6 (.slice ka p.2.list.length kc) p.2.list.length ks
  lay : Lay w p.2 ks L
  rng : ∀ x ∈ L, B ≤ x ∧ x < w.heap.size
  nd : L.Nodup
  obN : ∀ x, (Value.slice na p.1.ns.length nc).ownBlock = some x → x ∉ L ∧ (Value.slice ka p.2.list.length kc).ownBlock ≠ some x
  obK : ∀ x, (Value.slice ka p.2.list.length kc).ownBlock = some x → x ∉ L
theorem PInv.top {w : World} {p : Vt} {na1 : Option Addr} {nc1 : Nat} {ka2 : Option Addr} {kc2 : Nat} {ss sp : List Value} {Ln : List Nat} {cs : List Value} {L : List Nat} {wr w' : World}
    (h : PInv w p na1 nc1 ka2 kc2 ss sp Ln p.2.list.length cs L wr) (hss : ss.length = p.2.list.length * 6) (hk : ∀ x, w.heap.size + 2 ≤ x → x < wr.heap.size → w'.heap[x]? = wr.heap[x]?) (hs : wr.heap.size ≤ w'.heap.size) :
    Top w' (w.heap.size + 2) p na1 nc1 ka2 kc2 Ln cs L := by
  have hlay := h.lay
  rw [Fo.take_all _ _ (Nat.le_refl _)] at hlay
  have hcl : cs.length = p.2.list.length * 6 := hlay.len
  have hlt := World.ownsRow.lt h.ownN
  refine ⟨?_, ?_, ?_, ?_, (List.nodup_append.1 h.nd).2.1, ?_, ?_⟩
  · refine ⟨h.ownN.1, ?_⟩
    rcases h.ownN.2 with e | ⟨g, cap, cur, e, h1, h2, h3⟩
    · exact .inl e
    · have := hlt g (by rw [e]; rfl)
      exact .inr ⟨g, cap, cur, e, h1, (hk g this.1 this.2).trans h2, h3⟩
  · rcases h.row with ⟨e1, e2, e3⟩ | ⟨g, rfl, hg, hg2, hg3, hl, hm⟩
    · have : cs = [] := List.eq_nil_of_length_eq_zero (by omega)
      rw [e1, e2, e3, this]
      exact World.ownsRow_nil _ _ _ _
    · refine ⟨hcl, .inr ⟨g, kc2, _, rfl, hg2, (hk g hg2 hg.lt).trans hg, h.capk.le, hm, by simpa using hl, ?_⟩⟩
      rw [show (cs ++ (ss.drop (p.2.list.length * 6) ++ sp)).toArray.toList = cs ++ (ss.drop (p.2.list.length * 6) ++ sp) from rfl, ← hcl, List.take_left]
  · refine Lay.keep _ hlay fun x hx => ?_
    have := h.rng x (by simp [hx])
    exact hk x this.1 this.2
  · intro x hx
    have := h.rng x (by simp [hx])
    omega
  · intro x hx
    obtain ⟨a1, a2, a3⟩ := h.obN x hx
    refine ⟨a2, fun c => ?_⟩
    rcases h.row with ⟨e1, e2, e3⟩ | ⟨g, rfl, _⟩
    · rw [e2] at c; simp [Value.ownBlock] at c
    · simp [Value.ownBlock] at c
      rw [c] at a3
      exact a3 rfl
  · intro x hx c
    rcases h.row with ⟨e1, e2, e3⟩ | ⟨g, rfl, _, _, hg3, _⟩
    · rw [e2] at hx; simp [Value.ownBlock] at hx
    · simp [Value.ownBlock] at hx
      rw [hx] at hg3
      exact hg3 (by simp [c])
end Go.Proofs.Ytiddlpjnfophhaa
