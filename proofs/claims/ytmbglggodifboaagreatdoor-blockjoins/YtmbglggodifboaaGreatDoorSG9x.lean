/-
  codec's appendKids. · codec's appendKids, at structs.
-/
import Derived.Test.YtmbglggodifboaaGreatDoorSG8x
namespace Go.Proofs.YtmbglggodifboaaGreatDoor
open Go.RowKit Math
set_option linter.unusedVariables false
theorem al_zero {P : Program} {ops : Array Oper} {rest : List Oper} {o : Oper} {a : Act} {w : World} {Q : Exit → Act → World → Prop} (hg : o.guard = none) (t : TypeId) (ho : o.op = .alloc t) (cs : List Value) (hz : (P.info? t).map (fun i => i.zero.map (·.cells)) = some (some cs.toArray))
    (h : ∀ g w', w.heap.size ≤ g → Blk w' g t cs → w.grownBy w' none → wpList P ops Q rest (a.put o.dst (.pointer (some ⟨g, 0, none⟩))) w') : wpList P ops Q (o :: rest) a w := by
  refine wpList_plain hg fun K hK => ?_
  unfold Oper.wp execOp
  cases hi : P.info? t with
  | none => simp [hi] at hz
  | some i =>
    cases hq : i.zero with
    | none => simp [hi, hq] at hz
    | some z =>
      have hc : z.cells = cs.toArray := by simpa [hi, hq] using hz
      have hzv : (zeroValue t).run P w = .ok z w := by simp [zeroValue, typeInfo, hi, hq]
      simp only [ho, Sem.run_bind, Instr.alloc, hzv, newVar, newRow, run_newObj_alloc, Sem.run_pure, Result.andThen_ok, hc]
      exact hK _ _ (h _ _ (Nat.le_refl _) (blk_new w t cs) (World.grownBy_alloc w _ none))
theorem z25 : (Tryz.prog.info? 41).map (fun i => i.zero.map (·.cells)) = some (some zer.toArray) := by kernel_rfl
theorem below_new {w w1 w2 : World} {g : Nat} (h1 : w.grownBy w1 none) (hg : w.heap.size ≤ g) (h2 : w1.grownBy w2 (some g)) : Below w.heap.size w w2 := by
  have b1 : Below w.heap.size w w1 := (Below.refl _ _).grown h1 (Nat.le_refl _) (fun k e => by cases e)
  exact b1.grown h2 h1.size (fun k e => by injection e with e; omega)
theorem enc_drop {f : Fo} {b : Bool} {ns : List ByteArray} {k : Nat} {q : Vt} (h : f.list[k]? = some q) : enc (f.drop k) b (ns.drop k) = ((if b then txB ((ns.drop k).headD ⟨#[]⟩) else []) ++ encV q) ++ enc (f.drop (k + 1)) b (ns.drop (k + 1)) := by
  rw [Fo.drop_at f k q h, enc_cons]
  congr 2
  simp
structure KInv (B : Nat) (W wr : World) (v vb : Value) (l lk : List Nat) (box : List Value) (f : Fo) (b : Bool) (ns : List ByteArray) (k : Nat) (tot : List Nat) : Prop where
  ap : Ap B W wr v vb lk
  blk : Blk wr W.heap.size 41 box
  ne : vb.ownBlock ≠ some W.heap.size
  wr : ∃ x, Wr l x lk ∧ tot = x ++ enc (f.drop k) b (ns.drop k)
theorem KInv.len {B : Nat} {W wr : World} {v vb : Value} {l lk : List Nat} {box : List Value} {f : Fo} {b : Bool} {ns : List ByteArray} {k : Nat} {tot : List Nat} (h : KInv B W wr v vb l lk box f b ns k tot) : lk.length + (enc (f.drop k) b (ns.drop k)).length ≤ l.length + tot.length := by
  obtain ⟨x, h1, h2⟩ := h.wr
  have := h1.up
  rw [h2, List.length_append]
  omega
theorem KInv.step {B : Nat} {W wr w1 w2 : World} {v vb v2 : Value} {l lk l2 : List Nat} {box : List Value} {f : Fo} {b : Bool} {ns : List ByteArray} {k : Nat} {tot : List Nat} {q : Vt} (h : KInv B W wr v vb l lk box f b ns k tot) (hq : f.list[k]? = some q)
    (g : Below wr.heap.size wr w1) (A : Ap B w1 w2 vb v2 l2) (w : Wr lk ((if b then txB ((ns.drop k).headD ⟨#[]⟩) else []) ++ encV q) l2) : KInv B W w2 v v2 l l2 box f b ns (k + 1) tot := by
  have hlt := h.blk.lt
  have hs := g.size
  refine ⟨h.ap.trans (Ap.after g A), A.blk (h.blk.below g hlt) h.ne, fun e => ?_, ?_⟩
  · rcases A.ob _ e with h1 | h1
    · exact h.ne h1
    · omega
  · obtain ⟨x, h1, h2⟩ := h.wr
    refine ⟨x ++ ((if b then txB ((ns.drop k).headD ⟨#[]⟩) else []) ++ encV q), h1.trans w, ?_⟩
    rw [h2, enc_drop hq]
    simp only [List.append_assoc]
def AvC (p : Vt) : Prop := ∀ (na : Option Addr) (nc : Nat) (ka : Option Addr) (kc : Nat) (v : Value) (l : List Nat) (B : Nat) (w0 W : World), Vl w0 p na nc ka kc → Below w0.heap.size w0 W → w0.heap.size ≤ B → B ≤ W.heap.size → Own W B v l → l.length + (encV p).length ≤ 700000000 →
  Calls Tryz.prog 93 #[v, .agg #[.int .i64 p.1.k, .int .i64 p.1.n, .int .i64 p.1.s, .string p.1.t, .slice na p.1.ns.length nc, .slice ka p.2.list.length kc]] W fun e w' => ∃ v' l', e = .returned v' ∧ Hid (Ap B W w' v v' l' ∧ Wr l (encV p) l')
set_option maxRecDepth 8000 in
set_option maxHeartbeats 1000000 in
theorem ak_list (p : Vt) (hk : p.1.k = 8) (hkl : p.2.list.length ≤ 200) (ih : ∀ q ∈ p.2.list, AvC q) (na : Option Addr) (nc : Nat) (ka : Option Addr) (kc : Nat) (v : Value) (l : List Nat) (B : Nat) (w0 W : World) (hv : Vl w0 p na nc ka kc) (hb : Below w0.heap.size w0 W) (hB0 : w0.heap.size ≤ B) (hB : B ≤ W.heap.size) (ho : Own W B v l) (hl : l.length + (uv p.2.list.length ++ enc p.2 false p.1.ns).length ≤ 700000000) :
    Calls Tryz.prog 111 #[v, .agg #[.int .i64 8, .int .i64 p.1.n, .int .i64 p.1.s, .string p.1.t, .slice na p.1.ns.length nc, .slice ka p.2.list.length kc]] W fun e w' => ∃ v' l', e = .returned v' ∧ Hid (Ap B W w' v v' l' ∧ Wr l (uv p.2.list.length ++ enc p.2 false p.1.ns) l') := by
  obtain ⟨W1, HW1⟩ : ∃ W1, Hid (W.alloc (.cells #[.int .i64 8, .int .i64 p.1.n, .int .i64 p.1.s, .string p.1.t, .slice na p.1.ns.length nc, .slice ka p.2.list.length kc] 41) = W1) := ⟨_, rfl⟩
  have HX : Hid (Blk W1 W.heap.size 41 [.int .i64 8, .int .i64 p.1.n, .int .i64 p.1.s, .string p.1.t, .slice na p.1.ns.length nc, .slice ka p.2.list.length kc]) := by rw [← HW1.out]; exact blk_new W 41 [.int .i64 8, .int .i64 p.1.n, .int .i64 p.1.s, .string p.1.t, .slice na p.1.ns.length nc, .slice ka p.2.list.length kc]
  have HO1 : Hid (Own W1 B v l) := by rw [← HW1.out]; exact ho.alloc _
  have hz1 : W1.heap.size = W.heap.size + 1 := by have := HW1.out; subst this; simp
  have HB1 : Hid (Below W.heap.size W W1) := by rw [← HW1.out]; exact (Below.refl _ _).alloc (Nat.le_refl _) _
  have HN : Hid (v.ownBlock ≠ some W.heap.size) := ho.ne
  have HO : Hid (Own W B v l) := ho
  have HV : Hid (Vl w0 p na nc ka kc) := hv
  have HI : Hid (∀ q ∈ p.2.list, AvC q) := ih
  have HBw : Hid (Below w0.heap.size w0 W) := hb
  have HT : Hid (l.length + (uv p.2.list.length ++ enc p.2 false p.1.ns).length ≤ 700000000) := hl
  have hll : l.length ≤ 700000000 := by omega
  have KU := apUv v l p.2.list.length (by omega) B W1 HO1.out (by omega) (by omega)
  have c5 : W1.cell? ⟨W.heap.size, 5, none⟩ = some (.slice ka p.2.list.length kc) := HX.out.cell 5
  clear ho hv ih hb hl
  go_enter Tryz.func111, Tryz.ntmps111
  go_wp2_with fail
  generalize hWW : World.alloc W _ = W9
  obtain rfl : W1 = W9 := by rw [← hWW, ← HW1.out]
  clear hWW HW1
  refine KU.mono ?_
  rintro e w1 ⟨v1, rfl, A1⟩
  have HI0 : Hid (KInv B W w1 v v1 l (l ++ uv p.2.list.length) [.int .i64 8, .int .i64 p.1.n, .int .i64 p.1.s, .string p.1.t, .slice na p.1.ns.length nc, .slice ka p.2.list.length kc] p.2 false p.1.ns 0 (uv p.2.list.length ++ enc p.2 false p.1.ns)) := by
    refine ⟨Ap.after HB1.out A1, A1.blk HX.out HN.out, fun e => ?_, ⟨uv p.2.list.length, Wr.all _ _, rfl⟩⟩
    rcases A1.ob _ e with h | h
    · exact HN.out h
    · omega
  have c5' : w1.cell? ⟨W.heap.size, 5, none⟩ = some (.slice ka p.2.list.length kc) := HI0.out.blk.cell 5
  clear A1 KU c5 HX HO1 HB1 HN hz1
  go_wp2
  clear c5'
  go_loopw [0, 16] (fun vb i wr => ∃ (k : Nat) (lk : List Nat), k ≤ p.2.list.length ∧ i = .int .i64 (k : Int) ∧ Hid (KInv B W wr v vb l lk [.int .i64 8, .int .i64 p.1.n, .int .i64 p.1.s, .string p.1.t, .slice na p.1.ns.length nc, .slice ka p.2.list.length kc] p.2 false p.1.ns k (uv p.2.list.length ++ enc p.2 false p.1.ns))) (fun _ i _ => p.2.list.length - (intOf i).toNat)
  case atStart => exact ⟨0, _, by omega, rfl, HI0.out⟩
  case round =>
    clear HI0
    obtain ⟨k, lk, hk0, rfl, HK⟩ := hrel
    by_cases hlt : k < p.2.list.length
    case neg =>
      have HF : Hid (Ap B W wr v u0 lk ∧ Wr l (uv p.2.list.length ++ enc p.2 false p.1.ns) lk) := by
        obtain ⟨x, h1, h2⟩ := HK.out.wr
        rw [Fo.drop_end _ _ (by omega)] at h2
        simp only [enc, List.append_nil] at h2
        rw [h2]
        exact ⟨HK.out.ap, h1⟩
      go_wp2
      go_ret
      exact ⟨_, lk, rfl, HF.out⟩
    have HBr : Hid (Below w0.heap.size w0 wr) := HK.out.ap.below HO.out HBw.out HBw.out.size hB0
    obtain ⟨q, b, o, na', nc', ka', kc', hq, rfl, hnd, hvl⟩ := HV.out.kid (Below.refl _ _) (k := k) hlt
    have HQq : Hid (p.2.list[k]? = some q) := hq
    have HQ : Hid (AvC q) := HI.out q (List.mem_of_getElem? hq)
    have HVq : Hid (Vl w0 q na' nc' ka' kc') := hvl
    obtain ⟨d0, d1, d2, d3, d4, d5⟩ := hnd.below HBr.out
    clear hnd hvl hq
    go_wp2_with (refine al_zero rfl 41 rfl zer z25 ?_)
    intro g6 w6 hg6 Bz6 gr6
    go_wp2_with (refine st_all rfl 41 (.tmp 6) (.tmp 20) rfl g6 41 zer (six q.1 na' nc' ka' q.2.list.length kc') rfl rfl Bz6 rfl s25 (six_one _ _ _ _ _ _) ?_)
    intro w7 B7 gr7
    have G7 : Hid (Below wr.heap.size wr w7) := below_new gr6 hg6 gr7
    have cb0 : w7.cell? ⟨W.heap.size, 0, none⟩ = some (.int .i64 8) := (HK.out.blk.below G7.out HK.out.blk.lt).cell 0
    have e0 : w7.cell? ⟨g6, 0, none⟩ = some (.int .i64 q.1.k) := B7.cell 0
    have e1 : w7.cell? ⟨g6, 1, none⟩ = some (.int .i64 q.1.n) := B7.cell 1
    have e2 : w7.cell? ⟨g6, 2, none⟩ = some (.int .i64 q.1.s) := B7.cell 2
    have e3 : w7.cell? ⟨g6, 3, none⟩ = some (.string q.1.t) := B7.cell 3
    have e4 : w7.cell? ⟨g6, 4, none⟩ = some (.slice na' q.1.ns.length nc') := B7.cell 4
    have e5 : w7.cell? ⟨g6, 5, none⟩ = some (.slice ka' q.2.list.length kc') := B7.cell 5
    clear Bz6 gr6 gr7 B7 d0 d1 d2 d3 d4 d5
    have KQ := HQ.out na' nc' ka' kc' u0 lk B w0 w7 HVq.out (HBr.out.trans (G7.out.mono HBr.out.size)) hB0 (by have := HK.out.ap.gr.size; have := G7.out.size; omega) (HK.out.ap.own.below G7.out) (by
      have h1 := HK.out.len
      have h2 := HT.out
      have h3 := congrArg List.length (enc_drop (b := false) (ns := p.1.ns) HQq.out)
      simp only [List.length_append] at h3 h1 h2
      omega)
    go_wp2_with fail
    refine KQ.mono ?_
    rintro e w9 ⟨v9, l9, rfl, H9⟩
    have HK2 : Hid (KInv B W w9 v v9 l l9 [.int .i64 8, .int .i64 p.1.n, .int .i64 p.1.s, .string p.1.t, .slice na p.1.ns.length nc, .slice (some ⟨b, o, none⟩) p.2.list.length kc] p.2 false p.1.ns (k + 1) (uv p.2.list.length ++ enc p.2 false p.1.ns)) := HK.out.step HQq.out G7.out H9.out.1 (by simpa using H9.out.2)
    clear KQ H9 HK e0 e1 e2 e3 e4 e5 cb0
    go_wp2
    go_roundw
    case rel => exact ⟨k + 1, l9, by omega, by go_num, HK2.out⟩
    case measure => simp [intOf]; omega
end Go.Proofs.YtmbglggodifboaaGreatDoor
namespace Go.Proofs.YtmbglggodifboaaGreatDoor
open Go.RowKit Math
set_option linter.unusedVariables false
set_option maxRecDepth 8000 in
set_option maxHeartbeats 1000000 in
theorem ak_struct (p : Vt) (hk : p.1.k = 9) (hkl : p.2.list.length ≤ 200) (hn : p.1.ns.length = p.2.list.length) (hn2 : ∀ x ∈ p.1.ns, x.size ≤ 40) (ih : ∀ q ∈ p.2.list, AvC q) (na : Option Addr) (nc : Nat) (ka : Option Addr) (kc : Nat) (v : Value) (l : List Nat) (B : Nat) (w0 W : World) (hv : Vl w0 p na nc ka kc) (hb : Below w0.heap.size w0 W) (hB0 : w0.heap.size ≤ B) (hB : B ≤ W.heap.size) (ho : Own W B v l) (hl : l.length + (uv p.2.list.length ++ enc p.2 true p.1.ns).length ≤ 700000000) :
    Calls Tryz.prog 111 #[v, .agg #[.int .i64 9, .int .i64 p.1.n, .int .i64 p.1.s, .string p.1.t, .slice na p.1.ns.length nc, .slice ka p.2.list.length kc]] W fun e w' => ∃ v' l', e = .returned v' ∧ Hid (Ap B W w' v v' l' ∧ Wr l (uv p.2.list.length ++ enc p.2 true p.1.ns) l') := by
  obtain ⟨W1, HW1⟩ : ∃ W1, Hid (W.alloc (.cells #[.int .i64 9, .int .i64 p.1.n, .int .i64 p.1.s, .string p.1.t, .slice na p.1.ns.length nc, .slice ka p.2.list.length kc] 41) = W1) := ⟨_, rfl⟩
  have HX : Hid (Blk W1 W.heap.size 41 [.int .i64 9, .int .i64 p.1.n, .int .i64 p.1.s, .string p.1.t, .slice na p.1.ns.length nc, .slice ka p.2.list.length kc]) := by rw [← HW1.out]; exact blk_new W 41 [.int .i64 9, .int .i64 p.1.n, .int .i64 p.1.s, .string p.1.t, .slice na p.1.ns.length nc, .slice ka p.2.list.length kc]
  have HO1 : Hid (Own W1 B v l) := by rw [← HW1.out]; exact ho.alloc _
  have hz1 : W1.heap.size = W.heap.size + 1 := by have := HW1.out; subst this; simp
  have HB1 : Hid (Below W.heap.size W W1) := by rw [← HW1.out]; exact (Below.refl _ _).alloc (Nat.le_refl _) _
  have HN : Hid (v.ownBlock ≠ some W.heap.size) := ho.ne
  have HO : Hid (Own W B v l) := ho
  have HV : Hid (Vl w0 p na nc ka kc) := hv
  have HI : Hid (∀ q ∈ p.2.list, AvC q) := ih
  have HBw : Hid (Below w0.heap.size w0 W) := hb
  have HN1 : Hid (p.1.ns.length = p.2.list.length) := hn
  have HN2 : Hid (∀ x ∈ p.1.ns, x.size ≤ 40) := hn2
  have HT : Hid (l.length + (uv p.2.list.length ++ enc p.2 true p.1.ns).length ≤ 700000000) := hl
  have hll : l.length ≤ 700000000 := by omega
  have KU := apUv v l p.2.list.length (by omega) B W1 HO1.out (by omega) (by omega)
  have c5 : W1.cell? ⟨W.heap.size, 5, none⟩ = some (.slice ka p.2.list.length kc) := HX.out.cell 5
  clear ho hv ih hb hl hn hn2
  go_enter Tryz.func111, Tryz.ntmps111
  go_wp2_with fail
  generalize hWW : World.alloc W _ = W9
  obtain rfl : W1 = W9 := by rw [← hWW, ← HW1.out]
  clear hWW HW1
  refine KU.mono ?_
  rintro e w1 ⟨v1, rfl, A1⟩
  have HI0 : Hid (KInv B W w1 v v1 l (l ++ uv p.2.list.length) [.int .i64 9, .int .i64 p.1.n, .int .i64 p.1.s, .string p.1.t, .slice na p.1.ns.length nc, .slice ka p.2.list.length kc] p.2 true p.1.ns 0 (uv p.2.list.length ++ enc p.2 true p.1.ns)) := by
    refine ⟨Ap.after HB1.out A1, A1.blk HX.out HN.out, fun e => ?_, ⟨uv p.2.list.length, Wr.all _ _, rfl⟩⟩
    rcases A1.ob _ e with h | h
    · exact HN.out h
    · omega
  have c5' : w1.cell? ⟨W.heap.size, 5, none⟩ = some (.slice ka p.2.list.length kc) := HI0.out.blk.cell 5
  clear A1 KU c5 HX HO1 HB1 HN hz1
  go_wp2
  clear c5'
  go_loopw [0, 16] (fun vb i wr => ∃ (k : Nat) (lk : List Nat), k ≤ p.2.list.length ∧ i = .int .i64 (k : Int) ∧ Hid (KInv B W wr v vb l lk [.int .i64 9, .int .i64 p.1.n, .int .i64 p.1.s, .string p.1.t, .slice na p.1.ns.length nc, .slice ka p.2.list.length kc] p.2 true p.1.ns k (uv p.2.list.length ++ enc p.2 true p.1.ns))) (fun _ i _ => p.2.list.length - (intOf i).toNat)
  case atStart => exact ⟨0, _, by omega, rfl, HI0.out⟩
  case round =>
    clear HI0
    obtain ⟨k, lk, hk0, rfl, HK⟩ := hrel
    by_cases hlt : k < p.2.list.length
    case neg =>
      have HF : Hid (Ap B W wr v u0 lk ∧ Wr l (uv p.2.list.length ++ enc p.2 true p.1.ns) lk) := by
        obtain ⟨x, h1, h2⟩ := HK.out.wr
        rw [Fo.drop_end _ _ (by omega)] at h2
        simp only [enc, List.append_nil] at h2
        rw [h2]
        exact ⟨HK.out.ap, h1⟩
      go_wp2
      go_ret
      exact ⟨_, lk, rfl, HF.out⟩
    have HBr : Hid (Below w0.heap.size w0 wr) := HK.out.ap.below HO.out HBw.out HBw.out.size hB0
    obtain ⟨q, b, o, na', nc', ka', kc', hq, rfl, hnd, hvl⟩ := HV.out.kid (Below.refl _ _) (k := k) hlt
    have HQq : Hid (p.2.list[k]? = some q) := hq
    have HQ : Hid (AvC q) := HI.out q (List.mem_of_getElem? hq)
    have HVq : Hid (Vl w0 q na' nc' ka' kc') := hvl
    obtain ⟨d0, d1, d2, d3, d4, d5⟩ := hnd.below HBr.out
    clear hnd hvl hq
    go_wp2_with (refine al_zero rfl 41 rfl zer z25 ?_)
    intro g6 w6 hg6 Bz6 gr6
    go_wp2_with (refine st_all rfl 41 (.tmp 6) (.tmp 20) rfl g6 41 zer (six q.1 na' nc' ka' q.2.list.length kc') rfl rfl Bz6 rfl s25 (six_one _ _ _ _ _ _) ?_)
    intro w7 B7 gr7
    have B7x : Hid (Blk w7 g6 41 (six q.1 na' nc' ka' q.2.list.length kc')) := B7
    have G7 : Hid (Below wr.heap.size wr w7) := below_new gr6 hg6 gr7
    have cb0 : w7.cell? ⟨W.heap.size, 0, none⟩ = some (.int .i64 9) := (HK.out.blk.below G7.out HK.out.blk.lt).cell 0
    have e0 : w7.cell? ⟨g6, 0, none⟩ = some (.int .i64 q.1.k) := B7.cell 0
    have e1 : w7.cell? ⟨g6, 1, none⟩ = some (.int .i64 q.1.n) := B7.cell 1
    have e2 : w7.cell? ⟨g6, 2, none⟩ = some (.int .i64 q.1.s) := B7.cell 2
    have e3 : w7.cell? ⟨g6, 3, none⟩ = some (.string q.1.t) := B7.cell 3
    have e4 : w7.cell? ⟨g6, 4, none⟩ = some (.slice na' q.1.ns.length nc') := B7.cell 4
    have e5 : w7.cell? ⟨g6, 5, none⟩ = some (.slice ka' q.2.list.length kc') := B7.cell 5
    clear Bz6 gr6 gr7 B7 d0 d1 d2 d3 d4 d5
    have HB7 : Hid (Blk w7 g6 41 (six q.1 na' nc' ka' q.2.list.length kc')) := B7x.out
    obtain ⟨nm, hnm⟩ : ∃ nm, p.1.ns[k]? = some nm := ⟨_, List.getElem?_eq_getElem (by rw [HN1.out]; exact hlt)⟩
    have hns : nm.size ≤ 40 := HN2.out nm (List.mem_of_getElem? hnm)
    have HD : Hid ((p.1.ns.drop k).headD ⟨#[]⟩ = nm) := by
      show _ = _
      have := List.getElem?_eq_some_iff.1 hnm
      obtain ⟨h1, h2⟩ := this
      rw [List.drop_eq_getElem_cons h1, h2]
      rfl
    have hB7 : B ≤ w7.heap.size := by have := HK.out.ap.gr.size; have := G7.out.size; omega
    have HO7 : Hid (Own w7 B u0 lk) := HK.out.ap.own.below G7.out
    have Hb7 : Hid (Below w0.heap.size w0 w7) := HBr.out.trans (G7.out.mono HBr.out.size)
    have HLn : Hid (lk.length + (txB nm).length + (encV q).length ≤ 700000000) := by
      have h1 := HK.out.len
      have h2 := HT.out
      have h3 := congrArg List.length (enc_drop (b := true) (ns := p.1.ns) HQq.out)
      simp only [if_true] at h3
      rw [HD.out] at h3
      simp only [List.length_append] at h3 h1 h2
      show _ ≤ _
      omega
    have hlk : lk.length ≤ 700000000 := by have := HLn.out; omega
    have KT := apTx u0 lk nm B w7 HO7.out hB7 (by omega)
    rcases HV.out.nms with hem | ⟨bn, on, hna, hc⟩
    · rw [hem] at hnm; simp at hnm
    have hcn : w7.cell? ⟨bn, on + k, none⟩ = some (.string nm) := by
      have := hc k nm hnm
      rw [← this]
      exact Hb7.out.cell (p := ⟨bn, on + k, none⟩) (cell_lt this)
    have cb4 : w7.cell? ⟨W.heap.size, 4, none⟩ = some (.slice (some ⟨bn, on, none⟩) p.1.ns.length nc) := by
      rw [← hna]
      exact (HK.out.blk.below G7.out HK.out.blk.lt).cell 4
    have hkn : k < p.1.ns.length := by rw [HN1.out]; exact hlt
    clear hc hnm hna e0 e1 e2 e3 e4 e5
    go_wp2_with fail
    refine KT.mono ?_
    rintro e w8 ⟨v8, rfl, A8⟩
    have HA8 : Hid (Ap B w7 w8 u0 v8 (lk ++ txB nm)) := A8
    have B8 : Blk w8 g6 41 (six q.1 na' nc' ka' q.2.list.length kc') := A8.blk HB7.out (fun e => by have := (World.ownsRow.lt HK.out.ap.own _ e).2; omega)
    have e0 : w8.cell? ⟨g6, 0, none⟩ = some (.int .i64 q.1.k) := B8.cell 0
    have e1 : w8.cell? ⟨g6, 1, none⟩ = some (.int .i64 q.1.n) := B8.cell 1
    have e2 : w8.cell? ⟨g6, 2, none⟩ = some (.int .i64 q.1.s) := B8.cell 2
    have e3 : w8.cell? ⟨g6, 3, none⟩ = some (.string q.1.t) := B8.cell 3
    have e4 : w8.cell? ⟨g6, 4, none⟩ = some (.slice na' q.1.ns.length nc') := B8.cell 4
    have e5 : w8.cell? ⟨g6, 5, none⟩ = some (.slice ka' q.2.list.length kc') := B8.cell 5
    have KQ := HQ.out na' nc' ka' kc' v8 (lk ++ txB nm) B w0 w8 HVq.out (A8.below HO7.out Hb7.out Hb7.out.size hB0) hB0 (Nat.le_trans hB7 A8.gr.size) A8.own (by rw [List.length_append]; exact HLn.out)
    clear A8 B8 KT hcn cb4
    go_wp2_with fail
    refine KQ.mono ?_
    rintro e w9 ⟨v9, l9, rfl, H9⟩
    have HK2 : Hid (KInv B W w9 v v9 l l9 [.int .i64 9, .int .i64 p.1.n, .int .i64 p.1.s, .string p.1.t, .slice na p.1.ns.length nc, .slice (some ⟨b, o, none⟩) p.2.list.length kc] p.2 true p.1.ns (k + 1) (uv p.2.list.length ++ enc p.2 true p.1.ns)) := HK.out.step HQq.out G7.out (HA8.out.trans H9.out.1) (by
      simp only [if_true]
      rw [HD.out]
      exact (Wr.all lk (txB nm)).trans H9.out.2)
    clear KQ H9 HK e0 e1 e2 e3 e4 e5 cb0 HA8
    go_wp2
    go_roundw
    case rel => exact ⟨k + 1, l9, by omega, by go_num, HK2.out⟩
    case measure => simp [intOf]; omega
end Go.Proofs.YtmbglggodifboaaGreatDoor
