/-
  Changes of a catalog in memory.
-/
import Derived.Test.YtbkogaencjmmgaaCd
namespace Go.Proofs.Ytbkogaencjmmgaa
open Go.RowKit Go.MapKept
set_option linter.unusedVariables false
set_option linter.unusedSimpArgs false
/-- What was there, or is new. -/
def Nw (S : Nat → Prop) (w w' : World) : Nat → Prop := fun x => S x ∨ (w.heap.size ≤ x ∧ x < w'.heap.size)
theorem strip_app (X Y : List TV) : strip (X ++ Y) = strip X ++ strip Y := by simp [strip]
theorem In.app {S S' : Nat → Prop} {g : Nat} {tv tv' mv : Value} {L : List TV} {t : Tb} (h : In S g tv mv L) (hs : ∀ x, S x → S' x) (ht : ∀ x, tv'.ownBlock = some x → S' x) : In S' g tv' mv (L ++ [(t, .slice none 0 0)]) :=
  ⟨hs _ h.g, ht, (fun p hp x hx => by
    rcases List.mem_append.1 hp with hp | hp
    · exact hs _ (h.fld p hp x hx)
    · obtain rfl := List.mem_singleton.1 hp
      exact absurd hx (by simp [Value.ownBlock])), fun x hx => hs _ (h.map x hx)⟩
theorem tbl_app {A : List Tb} {t : Tb} (id : Int) : tbl (A ++ [t]) id = if id = (A.length : Int) + 1 then some t else tbl A id := by
  unfold tbl
  by_cases h1 : 1 ≤ id
  · rw [if_pos h1, if_pos h1]
    by_cases h2 : id = (A.length : Int) + 1
    · rw [if_pos h2, h2, show ((A.length : Int) + 1 - 1).toNat = A.length by omega]; simp
    · rw [if_neg h2]
      by_cases h3 : (id - 1).toNat < A.length
      · rw [List.getElem?_append_left h3]
      · rw [List.getElem?_append_right (by omega), List.getElem?_eq_none (by simp; omega), List.getElem?_eq_none (by omega)]
  · rw [if_neg h1, if_neg h1, if_neg (by omega)]
theorem tbl_end {A : List Tb} : tbl A ((A.length : Int) + 1) = none := by rw [tbl_nat]; simp
theorem has_app (A : List Tb) (s : ByteArray) (b : Bool) (id : Int) (t : ByteArray) : hasB (A ++ [⟨s, [], b⟩]) id t = hasB A id t := by
  unfold hasB
  rw [tbl_app]
  by_cases h : id = (A.length : Int) + 1
  · rw [if_pos h, h, tbl_end]; rfl
  · rw [if_neg h]
theorem gone_app (A : List Tb) (s : ByteArray) (id : Int) : goneB (A ++ [⟨s, [], false⟩]) id = goneB A id := by
  unfold goneB
  rw [tbl_app]
  by_cases h : id = (A.length : Int) + 1
  · rw [if_pos h, h, tbl_end]
  · rw [if_neg h]
theorem CM.added {w W : World} {g dm : Nat} {tv tv' mv : Value} {L : List TV} {s : ByteArray} (h : CM w g tv dm mv L) (hl : L.length < 64) (hs : s.size ≤ 40) (u : Upd (fun x => x = g ∨ tv.ownBlock = some x) w W) (hb : Blk W g 70 [tv', .int .u64 (dm : Int), mv])
    (hr : W.ownsRow 0 87 2 tv' (L.length + 1) (tbs L ++ [.string s, .slice none 0 0])) : CM W g tv' dm mv (L ++ [(⟨s, [], false⟩, .slice none 0 0)]) := by
  refine ⟨hb, ?_, fun p hp => ?_, ?_, fun i => ?_, ⟨?_, ?_⟩, ?_⟩
  · rw [List.length_append, tbs_app]; exact hr
  · rcases List.mem_append.1 hp with hp | hp
    · refine own_upd (h.fld p hp) u fun x hx => ?_
      rintro (rfl | e)
      · exact tag_ne (h.fld p hp) h.blk (by decide) hx
      · exact tag_ne2 (h.fld p hp) h.row (by decide) hx e
    · obtain rfl := List.mem_singleton.1 hp
      exact World.ownsRow_nil _ _ _ _
  · refine (h.map.upd u fun b hmb => ?_).congr fun i t => ?_
    · rintro (rfl | e)
      · exact h.map.blk h.blk hmb
      · exact h.map.row h.row e hmb
    · rw [strip_app, show strip [((⟨s, [], false⟩ : Tb), Value.slice none 0 0)] = [⟨s, [], false⟩] from rfl, has_app]
  · rw [h.bits i, strip_app]; exact (gone_app _ _ _).symm
  · rw [strip_len, List.length_append]; simp; omega
  · rw [strip_app]
    intro t ht
    rcases List.mem_append.1 ht with ht | ht
    · exact h.ok.ok t ht
    · obtain rfl := List.mem_singleton.1 ht
      exact ⟨hs, by simp, by simp, by simp⟩
  · rw [List.pairwise_append]
    refine ⟨h.apart, List.pairwise_singleton _ _, fun p hp q hq x hx e => ?_⟩
    obtain rfl := List.mem_singleton.1 hq
    cases e
theorem apart_put {X Y : List TV} {p p' : TV} {n : Nat} (h : (X ++ p :: Y).Pairwise (fun p q => ∀ x, p.2.ownBlock = some x → q.2.ownBlock ≠ some x)) (hn : ∀ q ∈ X ++ Y, ∀ x, q.2.ownBlock = some x → x < n) (hv : ∀ x, p'.2.ownBlock = some x → p.2.ownBlock = some x ∨ n ≤ x) :
    (X ++ p' :: Y).Pairwise (fun p q => ∀ x, p.2.ownBlock = some x → q.2.ownBlock ≠ some x) := by
  rw [List.pairwise_append, List.pairwise_cons] at h ⊢
  obtain ⟨h1, ⟨h2, h3⟩, h4⟩ := h
  refine ⟨h1, ⟨fun q hq x hx e => ?_, h3⟩, fun a ha b hb x hx e => ?_⟩
  · rcases hv x hx with h5 | h5
    · exact h2 q hq x h5 e
    · have := hn q (by simp [hq]) x e; omega
  · rcases List.mem_cons.1 hb with rfl | hb
    · rcases hv x e with h5 | h5
      · exact h4 a ha p (by simp) x hx h5
      · have := hn a (by simp [ha]) x hx; omega
    · exact h4 a ha b (by simp [hb]) x hx e
theorem apart_mid {X Y : List TV} {p : TV} (h : (X ++ p :: Y).Pairwise (fun p q => ∀ x, p.2.ownBlock = some x → q.2.ownBlock ≠ some x)) {q : TV} (hq : q ∈ X ++ Y) {x : Nat} (hx : q.2.ownBlock = some x) : p.2.ownBlock ≠ some x := by
  rw [List.pairwise_append, List.pairwise_cons] at h
  obtain ⟨h1, ⟨h2, h3⟩, h4⟩ := h
  rcases List.mem_append.1 hq with hq | hq
  · exact h4 q hq p (by simp) x hx
  · exact fun e => h2 q hq x e hx
theorem CM.changed {w W : World} {g dm dm' : Nat} {tv mv mv' : Value} {X Y : List TV} {p p' : TV} (h : CM w g tv dm mv (X ++ p :: Y)) (u : Upd (fun x => x = g ∨ tv.ownBlock = some x ∨ p.2.ownBlock = some x ∨ mv = .map (some x)) w W) (hb : Blk W g 70 [tv, .int .u64 (dm' : Int), mv'])
    (hr : W.ownsRow 0 87 2 tv (X ++ p :: Y).length (tbs (X ++ p' :: Y))) (hf : W.ownsRow 0 9 1 p'.2 p'.1.fs.length (sts p'.1.fs)) (hv : ∀ x, p'.2.ownBlock = some x → p.2.ownBlock = some x ∨ w.heap.size ≤ x)
    (hm : MapS W mv' (fun id s => hasB (strip (X ++ p' :: Y)) id s = true)) (hbits : ∀ i : Nat, dm'.testBit i = goneB (strip (X ++ p' :: Y)) ((i : Int) + 1)) (ok : OkT p'.1) : CM W g tv dm' mv' (X ++ p' :: Y) := by
  have hlen : (X ++ p' :: Y).length = (X ++ p :: Y).length := by simp
  refine ⟨hb, by rw [hlen]; exact hr, fun q hq => ?_, hm, hbits, ⟨?_, fun t ht => ?_⟩, apart_put (n := w.heap.size) h.apart (fun q hq x hx => row_lt (h.fld q (by simp at hq ⊢; rcases hq with hq | hq <;> simp [hq])) hx) hv⟩
  · have key : ∀ q ∈ X ++ Y, W.ownsRow 0 9 1 q.2 q.1.fs.length (sts q.1.fs) := fun q hq => by
      have hq' : q ∈ X ++ p :: Y := by simp at hq ⊢; rcases hq with hq | hq <;> simp [hq]
      refine own_upd (h.fld q hq') u fun x hx => ?_
      rintro (rfl | e | e | e)
      · exact tag_ne (h.fld q hq') h.blk (by decide) hx
      · exact tag_ne2 (h.fld q hq') h.row (by decide) hx e
      · exact apart_mid h.apart hq hx e
      · exact h.map.row (h.fld q hq') hx e
    rcases List.mem_append.1 hq with hq | hq
    · exact key q (by simp [hq])
    · rcases List.mem_cons.1 hq with rfl | hq
      · exact hf
      · exact key q (by simp [hq])
  · rw [strip_len, hlen, ← strip_len]; exact h.ok.len
  · simp only [strip, List.map_append, List.map_cons, List.mem_append, List.mem_cons] at ht
    have hok := h.ok.ok
    simp only [strip, List.map_append, List.map_cons, List.mem_append, List.mem_cons] at hok
    rcases ht with ht | rfl | ht
    · exact hok t (.inl ht)
    · exact ok
    · exact hok t (.inr (.inr ht))
theorem In.put {S S' : Nat → Prop} {g : Nat} {tv mv mv' : Value} {X Y : List TV} {p p' : TV} (h : In S g tv mv (X ++ p :: Y)) (hs : ∀ x, S x → S' x) (hv : ∀ x, p'.2.ownBlock = some x → S' x) (hm : ∀ x, mv' = .map (some x) → S' x) : In S' g tv mv' (X ++ p' :: Y) :=
  ⟨hs _ h.g, fun x hx => hs _ (h.tv x hx), fun q hq x hx => by
    rcases List.mem_append.1 hq with hq | hq
    · exact hs _ (h.fld q (by simp [hq]) x hx)
    · rcases List.mem_cons.1 hq with rfl | hq
      · exact hv x hx
      · exact hs _ (h.fld q (by simp [hq]) x hx), hm⟩
/-- The document's view of one table changed. -/
theorem tbl_put {A B : List Tb} {t t' : Tb} (id : Int) : tbl (A ++ t' :: B) id = if id = (A.length : Int) + 1 then some t' else tbl (A ++ t :: B) id := by
  unfold tbl
  by_cases h1 : 1 ≤ id
  · rw [if_pos h1, if_pos h1]
    by_cases h2 : id = (A.length : Int) + 1
    · rw [if_pos h2, h2, show ((A.length : Int) + 1 - 1).toNat = A.length by omega]; simp
    · rw [if_neg h2]
      by_cases h3 : (id - 1).toNat < A.length
      · rw [List.getElem?_append_left h3, List.getElem?_append_left h3]
      · rw [List.getElem?_append_right (by omega), List.getElem?_append_right (by omega)]
        obtain ⟨j, hj⟩ : ∃ j, (id - 1).toNat - A.length = j + 1 := ⟨(id - 1).toNat - A.length - 1, by omega⟩
        rw [hj]; simp
  · rw [if_neg h1, if_neg h1, if_neg (by omega)]
/-! ### operations in a region that draws -/
theorem q_cell {C : World → Prop} {a : Act} {o : Oper} {K : Act → Prop} (T : TypeId) (hT : T = 3 ∨ T = 9 ∨ T = 67 ∨ T = 66 ∨ T = 33 ∨ T = 44 ∨ T = 68 ∨ T = 4 ∨ T = 28) (x : Operand) (ho : o.op = .load T x) (b k : Nat) (hx : a.eval x = .pointer (some ⟨b, k, none⟩)) (v : Value) (hS : ∀ w, C w → w.cell? ⟨b, k, none⟩ = some v) (hk : K (a.put o.dst v)) : o.quiet Try.prog a C K :=
  ⟨_, fun w hw => by
    have h := hS w hw
    unfold Oper.quietAt execOp
    rcases hT with rfl | rfl | rfl | rfl | rfl | rfl | rfl | rfl | rfl <;> (simp only [ho, hx]; go_simp; exact ⟨rfl, rfl⟩), hk⟩
theorem oper_one {P : Program} {o : Oper} {a : Act} {w : World} {K : Act → World → Prop} {Q : Exit → Act → World → Prop} (ty : TypeId) (x y : Operand) (ho : o.op = .store ty x y) (b i : Nat) (t : TypeId) (vs : List Value) (v : Value)
    (hx : a.eval x = .pointer (some ⟨b, i, none⟩)) (hy : a.eval y = v) (hv : v.cells = #[v]) (hv1 : v.oneCell' = true) (hi : i < vs.length) (hb : Blk w b t vs) (hs : (P.info? ty).map (·.size) = some 1)
    (h : ∀ w', Blk w' b t (vs.set i v) → w.grownBy w' (some b) → K (a.put o.dst undef) w') : Oper.wp P o a w K Q := by
  have hst := run_storeCells_cells (P := P) b i [v] 0 w (fun j hj => by
      have : j = 0 := by simpa using hj
      subst this
      rw [Nat.add_zero, hb.cell, List.getElem?_eq_getElem hi]; rfl) (fun j hj => hb.frozen _) (by simp [hv1])
  unfold Oper.wp execOp
  cases hq : P.info? ty with
  | none => simp [hq] at hs
  | some q1 =>
    have hq1 : q1.size = 1 := by simpa [hq] using hs
    simp only [Nat.add_zero] at hst
    have hsv : (storeVar ty ⟨b, i, none⟩ v).run P w = .ok () (w.setCells b i [v]) := by
      simp [storeVar, Go.sizeOf, typeInfo, hq, hv, hq1, hst]
    simp only [ho, hx, hy, Instr.storeAt, Instr.sureAddr, Sem.run_bind, Sem.run_pure, Result.andThen_ok, hsv]
    exact h _ (hb.set i v) (grown_setCell w _ _)
theorem row_slice {w : World} {e k n : Nat} {v : Value} {xs : List Value} (h : w.ownsRow 0 e k v n xs) : v.cells = #[v] := by
  obtain ⟨a, c, rfl, _⟩ := row_val h
  rfl
theorem iTb : (Try.prog.info? 87).map (fun i => (i.zero.map (·.cells.size), i.size, decide (i.bytes ≤ 1000))) = some (some 2, 2, true) := by kernel_rfl
theorem iSt : (Try.prog.info? 9).map (fun i => (i.zero.map (·.cells.size), i.size, decide (i.bytes ≤ 1000))) = some (some 1, 1, true) := by kernel_rfl
theorem s66 : (Try.prog.info? 66).map (·.size) = some 1 := by kernel_rfl
theorem s33 : (Try.prog.info? 33).map (·.size) = some 1 := by kernel_rfl
theorem s67 : (Try.prog.info? 67).map (·.size) = some 1 := by kernel_rfl
theorem s68 : (Try.prog.info? 68).map (·.size) = some 1 := by kernel_rfl
theorem szTb (w : World) : (Go.sizeOf 87).run Try.prog w = .ok 2 w := by kernel_rfl
theorem zvTb (w : World) : (zeroValue 87).run Try.prog w = .ok (.agg [Value.string ⟨#[]⟩, .slice none 0 0].toArray) w := by kernel_rfl
/-- A catalog all of whose blocks are whatever they are. -/
theorem In.all (g : Nat) (tv mv : Value) (L : List TV) : In (fun _ => True) g tv mv L := ⟨trivial, fun _ _ => trivial, fun _ _ _ _ => trivial, fun _ _ => trivial⟩
theorem CM.below {w w' : World} {g dm : Nat} {tv mv : Value} {L : List TV} (h : CM w g tv dm mv L) (b : Below w.heap.size w w') : CM w' g tv dm mv L := h.upd (Upd.of_below Non b) (In.all _ _ _ _) (fun _ _ q => q)
#print axioms CM.added
#print axioms CM.changed
end Go.Proofs.Ytbkogaencjmmgaa
