/-
   · 
-/
import Derived.Test.YtobfdcdobhhagaaGreatDoorAG18x
import Derived.Test.YtobfdcdobhhagaaGreatDoorAG15x
namespace Go.Proofs.YtobfdcdobhhagaaGreatDoor
set_option maxHeartbeats 1000000
set_option maxRecDepth 8000
open Go.RowKit Math
set_option linter.unusedVariables false
theorem al_zero {P : Program} {ops : Array Oper} {rest : List Oper} {o : Oper} {a : Act} {w : World} {Q : Exit -> Act -> World -> Prop} (hg : o.guard = none) (t : TypeId) (ho : o.op = .alloc t) (cs : List Value) (hz : (P.info? t).map (fun i => i.zero.map (·.cells)) = some (some cs.toArray))
 (h : ∀ g w', w.heap.size <= g -> Blk w' g t cs -> w.grownBy w' none -> wpList P ops Q rest (a.put o.dst (.pointer (some ⟨g, 0, none⟩))) w') : wpList P ops Q (o :: rest) a w := by
 refine wpList_plain hg fun K hK => ?_
 unfold Oper.wp execOp
 cases hi : P.info? t with
 | none => simp [hi] at hz
 | some i =>
   cases hq : i.zero with
   | none => simp [hi, hq] at hz
   | some z =>
     have hc : z.cells = cs.toArray := by simpa [hi, hq] using hz
     have hzv : (zeroValue t).run P w = .ok z w := by simp [zeroValue, typeInfo, hi, hq]
     simp only [ho, Sem.run_bind, Instr.alloc, hzv, newVar, newRow, run_newObj_alloc, Sem.run_pure, Result.andThen_ok, hc]
     exact hK _ _ (h _ _ (Nat.le_refl _) (blk_new w t cs) (World.grownBy_alloc w _ none))
theorem z25 : (Tryz.prog.info? 38).map (fun i => i.zero.map (·.cells)) = some (some zer.toArray) := by kernel_rfl
theorem below_new {w w1 w2 : World} {g : Nat} (h1 : w.grownBy w1 none) (hg : w.heap.size <= g) (h2 : w1.grownBy w2 (some g)) : Below w.heap.size w w2 := by
 have b1 : Below w.heap.size w w1 := (Below.refl _ _).grown h1 (Nat.le_refl _) (fun k e => by cases e)
 exact b1.grown h2 h1.size (fun k e => by injection e with e; omega)
theorem enc_drop {f : Fo} {b : Bool} {ns : List ByteArray} {k : Nat} {q : Vt} (h : f.list[k]? = some q) : enc (f.drop k) b (ns.drop k) = ((if b then txB ((ns.drop k).headD ⟨#[]⟩) else []) ++ encV q) ++ enc (f.drop (k + 1)) b (ns.drop (k + 1)) := by
 rw [Fo.drop_at f k q h, enc_cons]
 congr 2
 simp
structure KInv (B : Nat) (W wr : World) (v vb : Value) (l lk : List Nat) (box : List Value) (f : Fo) (b : Bool) (ns : List ByteArray) (k : Nat) (tot : List Nat) : Prop where
 ap : Ap B W wr v vb lk
 blk : Blk wr W.heap.size 38 box
 ne : vb.ownBlock ≠ some W.heap.size
 wr : ∃ x, Wr l x lk /\ tot = x ++ enc (f.drop k) b (ns.drop k)
theorem KInv.len {B : Nat} {W wr : World} {v vb : Value} {l lk : List Nat} {box : List Value} {f : Fo} {b : Bool} {ns : List ByteArray} {k : Nat} {tot : List Nat} (h : KInv B W wr v vb l lk box f b ns k tot) : lk.length + (enc (f.drop k) b (ns.drop k)).length <= l.length + tot.length := by
 obtain ⟨x, h1, h2⟩ := h.wr
 have := h1.up
 rw [h2, List.length_append]
 omega
theorem KInv.step {B : Nat} {W wr w1 w2 : World} {v vb v2 : Value} {l lk l2 : List Nat} {box : List Value} {f : Fo} {b : Bool} {ns : List ByteArray} {k : Nat} {tot : List Nat} {q : Vt} (h : KInv B W wr v vb l lk box f b ns k tot) (hq : f.list[k]? = some q)
 (g : Below wr.heap.size wr w1) (A : Ap B w1 w2 vb v2 l2) (w : Wr lk ((if b then txB ((ns.drop k).headD ⟨#[]⟩) else []) ++ encV q) l2) : KInv B W w2 v v2 l l2 box f b ns (k + 1) tot := by
 have hlt := h.blk.lt
 have hs := g.size
 refine ⟨h.ap.trans (Ap.after g A), A.blk (h.blk.below g hlt) h.ne, fun e => ?_, ?_⟩
 . rcases A.ob _ e with h1 | h1
   . exact h.ne h1
   . omega
 . obtain ⟨x, h1, h2⟩ := h.wr
   refine ⟨x ++ ((if b then txB ((ns.drop k).headD ⟨#[]⟩) else []) ++ encV q), h1.trans w, ?_⟩
   rw [h2, enc_drop hq]
   simp only [List.append_assoc]
def AvC (p : Vt) : Prop := ∀ (na : Option Addr) (nc : Nat) (ka : Option Addr) (kc : Nat) (v : Value) (l : List Nat) (B : Nat) (w0 W : World), Vl w0 p na nc ka kc -> Below w0.heap.size w0 W -> w0.heap.size <= B -> B <= W.heap.size -> Own W B v l -> l.length + (encV p).length <= 700000000 ->
 Calls Tryz.prog 53 #[v, .agg #[.int .i64 p.1.k, .int .i64 p.1.n, .int .i64 p.1.s, .string p.1.t, .slice na p.1.ns.length nc, .slice ka p.2.list.length kc]] W fun e w' => ∃ v' l', e = .returned v' /\ Hid (Ap B W w' v v' l' /\ Wr l (encV p) l')
theorem ak_list (p : Vt) (hk : p.1.k = 8) (hkl : p.2.list.length <= 200) (ih : ∀ q ∈ p.2.list, AvC q) (na : Option Addr) (nc : Nat) (ka : Option Addr) (kc : Nat) (v : Value) (l : List Nat) (B : Nat) (w0 W : World) (hv : Vl w0 p na nc ka kc) (hb : Below w0.heap.size w0 W) (hB0 : w0.heap.size <= B) (hB : B <= W.heap.size) (ho : Own W B v l) (hl : l.length + (uv p.2.list.length ++ enc p.2 false p.1.ns).length <= 700000000) :
 Calls Tryz.prog 99 #[v, .agg #[.int .i64 8, .int .i64 p.1.n, .int .i64 p.1.s, .string p.1.t, .slice na p.1.ns.length nc, .slice ka p.2.list.length kc]] W fun e w' => ∃ v' l', e = .returned v' /\ Hid (Ap B W w' v v' l' /\ Wr l (uv p.2.list.length ++ enc p.2 false p.1.ns) l') := by
 obtain ⟨W1, HW1⟩ : ∃ W1, Hid (W.alloc (.cells #[.int .i64 8, .int .i64 p.1.n, .int .i64 p.1.s, .string p.1.t, .slice na p.1.ns.length nc, .slice ka p.2.list.length kc] 38) = W1) := ⟨_, rfl⟩
 have HX : Hid (Blk W1 W.heap.size 38 [.int .i64 8, .int .i64 p.1.n, .int .i64 p.1.s, .string p.1.t, .slice na p.1.ns.length nc, .slice ka p.2.list.length kc]) := by rw [<- HW1.out]; exact blk_new W 38 [.int .i64 8, .int .i64 p.1.n, .int .i64 p.1.s, .string p.1.t, .slice na p.1.ns.length nc, .slice ka p.2.list.length kc]
 have HO1 : Hid (Own W1 B v l) := by rw [<- HW1.out]; exact ho.alloc _
 have hz1 : W1.heap.size = W.heap.size + 1 := by have := HW1.out; subst this; simp
 have HB1 : Hid (Below W.heap.size W W1) := by rw [<- HW1.out]; exact (Below.refl _ _).alloc (Nat.le_refl _) _
 have HN : Hid (v.ownBlock ≠ some W.heap.size) := ho.ne
 have HO : Hid (Own W B v l) := ho
 have HV : Hid (Vl w0 p na nc ka kc) := hv
 have HI : Hid (∀ q ∈ p.2.list, AvC q) := ih
 have HBw : Hid (Below w0.heap.size w0 W) := hb
 have HT : Hid (l.length + (uv p.2.list.length ++ enc p.2 false p.1.ns).length <= 700000000) := hl
 have hll : l.length <= 700000000 := by omega
 have KU := apUv v l p.2.list.length (by omega) B W1 HO1.out (by omega) (by omega)
 have c5 : W1.cell? ⟨W.heap.size, 5, none⟩ = some (.slice ka p.2.list.length kc) := HX.out.cell 5
 clear ho hv ih hb hl
 go_enter Tryz.func99, Tryz.ntmps99
 go_wp2_with fail
 generalize hWW : World.alloc W _ = W9
 obtain rfl : W1 = W9 := by rw [<- hWW, <- HW1.out]
 clear hWW HW1
 refine KU.mono ?_
 rintro e w1 ⟨v1, rfl, A1⟩
 have HI0 : Hid (KInv B W w1 v v1 l (l ++ uv p.2.list.length) [.int .i64 8, .int .i64 p.1.n, .int .i64 p.1.s, .string p.1.t, .slice na p.1.ns.length nc, .slice ka p.2.list.length kc] p.2 false p.1.ns 0 (uv p.2.list.length ++ enc p.2 false p.1.ns)) := by
  refine ⟨Ap.after HB1.out A1, A1.blk HX.out HN.out, fun e => ?_, ⟨uv p.2.list.length, Wr.all _ _, rfl⟩⟩
  rcases A1.ob _ e with h | h
  . exact HN.out h
  . omega
 have c5' : w1.cell? ⟨W.heap.size, 5, none⟩ = some (.slice ka p.2.list.length kc) := HI0.out.blk.cell 5
 clear A1 KU c5 HX HO1 HB1 HN hz1
 go_wp2
 clear c5'
 go_loopw [0, 16] (fun vb i wr => ∃ (k : Nat) (lk : List Nat), k <= p.2.list.length /\ i = .int .i64 (k : Int) /\ Hid (KInv B W wr v vb l lk [.int .i64 8, .int .i64 p.1.n, .int .i64 p.1.s, .string p.1.t, .slice na p.1.ns.length nc, .slice ka p.2.list.length kc] p.2 false p.1.ns k (uv p.2.list.length ++ enc p.2 false p.1.ns))) (fun _ i _ => p.2.list.length - (intOf i).toNat)
 case atStart => exact ⟨0, _, by omega, rfl, HI0.out⟩
 case round =>
  clear HI0
  obtain ⟨k, lk, hk0, rfl, HK⟩ := hrel
  by_cases hlt : k < p.2.list.length
  case neg =>
   have HF : Hid (Ap B W wr v u0 lk /\ Wr l (uv p.2.list.length ++ enc p.2 false p.1.ns) lk) := by
    obtain ⟨x, h1, h2⟩ := HK.out.wr
    rw [Fo.drop_end _ _ (by omega)] at h2
    simp only [enc, List.append_nil] at h2
    rw [h2]
    exact ⟨HK.out.ap, h1⟩
   go_wp2
   go_ret
   exact ⟨_, lk, rfl, HF.out⟩
  have HBr : Hid (Below w0.heap.size w0 wr) := HK.out.ap.below HO.out HBw.out HBw.out.size hB0
  obtain ⟨q, b, o, na', nc', ka', kc', hq, rfl, hnd, hvl⟩ := HV.out.kid (Below.refl _ _) (k := k) hlt
  have HQq : Hid (p.2.list[k]? = some q) := hq
  have HQ : Hid (AvC q) := HI.out q (List.mem_of_getElem? hq)
  have HVq : Hid (Vl w0 q na' nc' ka' kc') := hvl
  obtain ⟨d0, d1, d2, d3, d4, d5⟩ := hnd.below HBr.out
  clear hnd hvl hq
  go_wp2_with (refine al_zero rfl 38 rfl zer z25 ?_)
  intro g6 w6 hg6 Bz6 gr6
  go_wp2_with (refine st_all rfl 38 (.tmp 6) (.tmp 20) rfl g6 38 zer (six q.1 na' nc' ka' q.2.list.length kc') rfl rfl Bz6 rfl s25 (six_one _ _ _ _ _ _) ?_)
  intro w7 B7 gr7
  have G7 : Hid (Below wr.heap.size wr w7) := below_new gr6 hg6 gr7
  have cb0 : w7.cell? ⟨W.heap.size, 0, none⟩ = some (.int .i64 8) := (HK.out.blk.below G7.out HK.out.blk.lt).cell 0
  have e0 : w7.cell? ⟨g6, 0, none⟩ = some (.int .i64 q.1.k) := B7.cell 0
  have e1 : w7.cell? ⟨g6, 1, none⟩ = some (.int .i64 q.1.n) := B7.cell 1
  have e2 : w7.cell? ⟨g6, 2, none⟩ = some (.int .i64 q.1.s) := B7.cell 2
  have e3 : w7.cell? ⟨g6, 3, none⟩ = some (.string q.1.t) := B7.cell 3
  have e4 : w7.cell? ⟨g6, 4, none⟩ = some (.slice na' q.1.ns.length nc') := B7.cell 4
  have e5 : w7.cell? ⟨g6, 5, none⟩ = some (.slice ka' q.2.list.length kc') := B7.cell 5
  clear Bz6 gr6 gr7 B7 d0 d1 d2 d3 d4 d5
  have KQ := HQ.out na' nc' ka' kc' u0 lk B w0 w7 HVq.out (HBr.out.trans (G7.out.mono HBr.out.size)) hB0 (by have := HK.out.ap.gr.size; have := G7.out.size; omega) (HK.out.ap.own.below G7.out) (by
   have h1 := HK.out.len
   have h2 := HT.out
   have h3 := congrArg List.length (enc_drop (b := false) (ns := p.1.ns) HQq.out)
   simp only [List.length_append] at h3 h1 h2
   omega)
  go_wp2_with fail
  refine KQ.mono ?_
  rintro e w9 ⟨v9, l9, rfl, H9⟩
  have HK2 : Hid (KInv B W w9 v v9 l l9 [.int .i64 8, .int .i64 p.1.n, .int .i64 p.1.s, .string p.1.t, .slice na p.1.ns.length nc, .slice (some ⟨b, o, none⟩) p.2.list.length kc] p.2 false p.1.ns (k + 1) (uv p.2.list.length ++ enc p.2 false p.1.ns)) := HK.out.step HQq.out G7.out H9.out.1 (by simpa using H9.out.2)
  clear KQ H9 HK e0 e1 e2 e3 e4 e5 cb0
  go_wp2
  go_roundw
  case rel => exact ⟨k + 1, l9, by omega, by go_num, HK2.out⟩
  case measure => simp [intOf]; omega
end Go.Proofs.YtobfdcdobhhagaaGreatDoor
namespace Go.Proofs.YtobfdcdobhhagaaGreatDoor
open Go.RowKit Math
set_option linter.unusedVariables false
set_option linter.unusedSimpArgs false
structure Kr (t : TypeId) (r : Nat) (W wr : World) (rc : List Value) : Prop where
 blk : Blk wr r t rc
 gr : W.grownBy wr (some r)
theorem Kr.trans {t : TypeId} {r : Nat} {W w1 w2 : World} {rc rc' : List Value} (h : Kr t r W w1 rc) (k : Kr t r w1 w2 rc') : Kr t r W w2 rc' := ⟨k.blk, h.gr.trans k.gr⟩
theorem Kr.then {t : TypeId} {r : Nat} {W w1 w2 : World} {rc : List Value} (h : Kr t r W w1 rc) (k : Below w1.heap.size w1 w2) : Kr t r W w2 rc :=
 ⟨h.blk.below k h.blk.lt, ⟨k.os.trans h.gr.os, k.tape.trans h.gr.tape, k.output.trans h.gr.output, Nat.le_trans h.gr.size k.size, fun x hx hne => (k.block x (Nat.lt_of_lt_of_le hx h.gr.size)).trans (h.gr.block x hx hne)⟩⟩
theorem lay_snoc {w : World} {q : Vt} {na : Option Addr} {nc : Nat} {ka : Option Addr} {kc : Nat} {Lq : List Nat} (hq : VlL w q na nc ka kc Lq) : ∀ (f : Fo) {cs : List Value} {L : List Nat}, Lay w f cs L -> Lay w (f.snoc q) (cs ++ six q.1 na nc ka q.2.list.length kc) (L ++ Lq)
 | .nil, cs, L, hl => by
   obtain ⟨rfl, rfl⟩ := hl
   exact (lay_cons (q := q)).2 ⟨na, nc, ka, kc, [], Lq, [], by simp, by simp, hq, ⟨rfl, rfl⟩⟩
 | .cons h kk r, cs, L, hl => by
   obtain ⟨na1, nc1, ka1, kc1, cs', L1, L2, rfl, rfl, hv, h7⟩ := (lay_cons (q := (h, kk))).1 hl
   exact (lay_cons (q := (h, kk))).2 ⟨na1, nc1, ka1, kc1, _, L1, _, by rw [List.append_assoc], by rw [List.append_assoc], hv, lay_snoc hq r h7⟩
structure Od (W : World) (r g6 g8 B : Nat) : Prop where
 r : r < W.heap.size
 l6 : W.heap.size <= g6
 l8 : g6 < g8
 lB : g8 < B
structure NK (t : TypeId) (B g6 g8 r : Nat) (W : World) (k : Int) (wr : World) (rc : List Value) (ns : List ByteArray) (f : Fo) (vn vk : Value) (cs : List Value) (Lf : List Nat) : Prop where
 ro : Kr t r W wr rc
 b6 : Blk wr g6 38 zer
 b8 : Blk wr g8 38 [.int .i64 k, .int .i64 0, .int .i64 0, .string ⟨#[]⟩, vn, vk]
 nm : wr.ownsRow B 9 1 vn ns.length (ns.map Value.string)
 kd : wr.ownsRow B 38 6 vk f.list.length cs
 lay : Lay wr f cs Lf
 rng : ∀ x ∈ Lf, B <= x /\ x < wr.heap.size /\ vn.ownBlock ≠ some x /\ vk.ownBlock ≠ some x
 nk : ∀ x, vn.ownBlock = some x -> vk.ownBlock ≠ some x
 sz : B <= wr.heap.size
section
variable {t : TypeId} {B g6 g8 r : Nat} {W : World} {k : Int} {wr w' : World} {rc rc' : List Value} {ns : List ByteArray} {f : Fo} {vn vk : Value} {cs : List Value} {Lf : List Nat}
theorem NK.read (h : NK t B g6 g8 r W k wr rc ns f vn vk cs Lf) (o : Od W r g6 g8 B) (k' : Kr t r wr w' rc') : NK t B g6 g8 r W k w' rc' ns f vn vk cs Lf := by
 have o1 := o.r
 have o2 := o.l6
 have o3 := o.l8
 have o4 := o.lB
 refine ⟨h.ro.trans k', h.b6.kept k'.gr (by intro c; injection c with c; omega), h.b8.kept k'.gr (by intro c; injection c with c; omega), World.ownsRow.kept h.nm k'.gr (.inr fun c => ?_), World.ownsRow.kept h.kd k'.gr (.inr fun c => ?_), Lay.keep _ h.lay fun x hx => ?_, fun x hx => ?_, h.nk, Nat.le_trans h.sz k'.gr.size⟩
 . have := (World.ownsRow.lt h.nm _ c).1
   omega
 . have := (World.ownsRow.lt h.kd _ c).1
   omega
 . have := h.rng x hx
   exact k'.gr.block x this.2.1 (by intro c; injection c with c; omega)
 . have := h.rng x hx
   have := k'.gr.size
   exact ⟨by omega, by omega, (h.rng x hx).2.2⟩
theorem NK.below (h : NK t B g6 g8 r W k wr rc ns f vn vk cs Lf) (g : Below wr.heap.size wr w') : NK t B g6 g8 r W k w' rc ns f vn vk cs Lf := by
 have g' : wr.grownBy w' none := ⟨g.os, g.tape, g.output, g.size, fun x hx _ => g.block x hx⟩
 refine ⟨h.ro.then g, h.b6.below g h.b6.lt, h.b8.below g h.b8.lt, World.ownsRow.kept h.nm g' (by simpa using Classical.em _), World.ownsRow.kept h.kd g' (by simpa using Classical.em _), Lay.keep _ h.lay fun x hx => g.block x (h.rng x hx).2.1, fun x hx => ?_, h.nk, Nat.le_trans h.sz g.size⟩
 have := h.rng x hx
 have := g.size
 exact ⟨by omega, by omega, (h.rng x hx).2.2⟩
theorem kr_grown {w1 : World} {row : Option Nat} (h : Kr t r W wr rc) (g : wr.grownBy w1 row) (hr : ∀ x, row = some x -> x ≠ r /\ W.heap.size <= x) : Kr t r W w1 rc := by
 refine ⟨h.blk.kept g (fun c => (hr r c.symm).1 rfl), ⟨g.os.trans h.gr.os, g.tape.trans h.gr.tape, g.output.trans h.gr.output, Nat.le_trans h.gr.size g.size, fun x hx hne => (g.block x (Nat.lt_of_lt_of_le hx h.gr.size) ?_).trans (h.gr.block x hx hne)⟩⟩
 intro c
 have := (hr x c.symm).2
 omega
theorem NK.name {w1 w2 w3 : World} {vn' : Value} {s : ByteArray} (h : NK t B g6 g8 r W k wr rc ns f vn vk cs Lf) (o : Od W r g6 g8 B) (hb : Below wr.heap.size wr w1) (g : w1.grownBy w2 vn.ownBlock) (hn : w2.ownsRow B 9 1 vn' (ns.length + 1) (ns.map Value.string ++ [.string s])) (hat : vn'.ownBlock = vn.ownBlock ∨ vn'.ownBlock = some w1.heap.size)
 (hs : Blk w3 g8 38 [.int .i64 k, .int .i64 0, .int .i64 0, .string ⟨#[]⟩, vn', vk]) (g3 : w2.grownBy w3 (some g8)) : NK t B g6 g8 r W k w3 rc (ns ++ [s]) f vn' vk cs Lf := by
 have o1 := o.r
 have o2 := o.l6
 have o3 := o.l8
 have o4 := o.lB
 have h1 := h.below hb
 have hsz := h.ro.gr.size
 have hsz1 := hb.size
 have ln := fun x c => World.ownsRow.lt h1.nm x c
 have lk := fun x c => World.ownsRow.lt h1.kd x c
 have ro2 := kr_grown h1.ro g (fun x c => by have := ln x c; omega)
 have ro3 := kr_grown ro2 g3 (fun x c => by injection c with c; omega)
 have ln' := fun x c => World.ownsRow.lt hn x c
 refine ⟨ro3, (h1.b6.kept g fun c => ?_).kept g3 (by intro c; injection c with c; omega), hs, ?_, World.ownsRow.kept (World.ownsRow.kept h1.kd g ?_) g3 (.inr fun c => ?_), Lay.keep _ h1.lay fun x hx => ?_, fun x hx => ?_, fun x c => ?_, Nat.le_trans h1.sz (Nat.le_trans g.size g3.size)⟩
 . have := ln _ c.symm
   omega
 . rw [List.length_append, List.map_append]
   exact World.ownsRow.kept hn g3 (.inr fun c => by have := ln' _ c; omega)
 . cases hv : vk.ownBlock with
   | none => exact .inl rfl
   | some x => exact .inr fun c => h1.nk x c.symm hv
 . have := lk _ c
   omega
 . obtain ⟨a1, a2, a3, a4⟩ := h1.rng x hx
   rw [g3.block x (Nat.lt_of_lt_of_le a2 g.size) (by intro c; injection c with c; omega)]
   exact g.block x a2 (fun c => a3 c.symm)
 . obtain ⟨a1, a2, a3, a4⟩ := h1.rng x hx
   have := g.size
   have := g3.size
   refine ⟨a1, by omega, ?_, a4⟩
   rcases hat with c | c
   . rw [c]; exact a3
   . rw [c]; intro c; injection c with c; omega
 . rcases hat with c2 | c2
   . exact h1.nk x (by rw [<- c2]; exact c)
   . intro c3
     rw [c2] at c
     injection c with c
     have := lk x c3
     omega
theorem NK.kid {w1 w2 w3 : World} {vk' : Value} {q : Vt} {na : Option Addr} {nc : Nat} {ka : Option Addr} {kc : Nat} {Lq : List Nat} (h : NK t B g6 g8 r W k wr rc ns f vn vk cs Lf) (o : Od W r g6 g8 B) (hv : VlL wr q na nc ka kc Lq) (hr : ∀ x ∈ Lq, B <= x /\ x < wr.heap.size /\ vn.ownBlock ≠ some x /\ vk.ownBlock ≠ some x)
 (hb : Below wr.heap.size wr w1) (g : w1.grownBy w2 vk.ownBlock) (hn : w2.ownsRow B 38 6 vk' (f.list.length + 1) (cs ++ six q.1 na nc ka q.2.list.length kc)) (hat : vk'.ownBlock = vk.ownBlock ∨ vk'.ownBlock = some w1.heap.size)
 (hs : Blk w3 g8 38 [.int .i64 k, .int .i64 0, .int .i64 0, .string ⟨#[]⟩, vn, vk']) (g3 : w2.grownBy w3 (some g8)) : NK t B g6 g8 r W k w3 rc ns (f.snoc q) vn vk' (cs ++ six q.1 na nc ka q.2.list.length kc) (Lf ++ Lq) := by
 have o1 := o.r
 have o2 := o.l6
 have o3 := o.l8
 have o4 := o.lB
 have h1 := h.below hb
 have hsz := h.ro.gr.size
 have hsz1 := hb.size
 have ln := fun x c => World.ownsRow.lt h1.nm x c
 have lk := fun x c => World.ownsRow.lt h1.kd x c
 have ro2 := kr_grown h1.ro g (fun x c => by have := lk x c; omega)
 have ro3 := kr_grown ro2 g3 (fun x c => by injection c with c; omega)
 have lk' := fun x c => World.ownsRow.lt hn x c
 have kp : ∀ x, B <= x -> x < w1.heap.size -> vk.ownBlock ≠ some x -> w3.heap[x]? = w1.heap[x]? := fun x a1 a2 a4 => by
  rw [g3.block x (Nat.lt_of_lt_of_le a2 g.size) (by intro c; injection c with c; omega)]
  exact g.block x a2 (fun c => a4 c.symm)
 refine ⟨ro3, (h1.b6.kept g fun c => ?_).kept g3 (by intro c; injection c with c; omega), hs, World.ownsRow.kept (World.ownsRow.kept h1.nm g ?_) g3 (.inr fun c => ?_), ?_, lay_snoc (VlL.keep hv fun x hx => ?_) _ (Lay.keep _ h1.lay fun x hx => ?_), fun x hx => ?_, fun x c => ?_, Nat.le_trans h1.sz (Nat.le_trans g.size g3.size)⟩
 . have := lk _ c.symm
   omega
 . cases hv : vn.ownBlock with
   | none => exact .inl rfl
   | some x => exact .inr fun c => h1.nk x hv c.symm
 . have := ln _ c
   omega
 . rw [snoc_list, List.length_append]
   exact World.ownsRow.kept hn g3 (.inr fun c => by have := lk' _ c; omega)
 . obtain ⟨a1, a2, a3, a4⟩ := hr x hx
   rw [kp x a1 (by omega) a4]
   exact hb.block x a2
 . obtain ⟨a1, a2, a3, a4⟩ := h1.rng x hx
   exact kp x a1 a2 a4
 . have g1 := g.size
   have g2 := g3.size
   have key : B <= x /\ x < w1.heap.size /\ vn.ownBlock ≠ some x /\ vk.ownBlock ≠ some x := by
    rcases List.mem_append.1 hx with hx | hx
    . exact h1.rng x hx
    . obtain ⟨a1, a2, a3, a4⟩ := hr x hx
      exact ⟨a1, by omega, a3, a4⟩
   refine ⟨key.1, by omega, key.2.2.1, ?_⟩
   rcases hat with c | c
   . rw [c]; exact key.2.2.2
   . rw [c]; intro c; injection c with c; have := key.2.1; omega
 . intro c3
   rcases hat with c2 | c2
   . exact h1.nk x c (by rw [<- c2]; exact c3)
   . rw [c2] at c3
     injection c3 with c3
     have := ln x c
     omega
theorem NK.val (h : NK t B g6 g8 r W k wr rc ns f vn vk cs Lf) : ∃ na nc ka kc Lp, vn = .slice na ns.length nc /\ vk = .slice ka f.list.length kc /\ VlL wr (nst k (f, ns)) na nc ka kc Lp /\ ∀ x ∈ Lp, B <= x /\ x < wr.heap.size := by
 obtain ⟨na, nc, Ln, e1, n1, n2, n3, _⟩ := nml_of h.nm
 have hk := h.kd
 have hk' := h.kd
 rcases hk with ⟨_, ⟨e2, h0⟩ | ⟨g, cap, cur, e2, hg, hh, hle, hm, _⟩⟩
 . have hf : f = .nil := by
    cases f with
    | nil => rfl
    | cons a b c => simp [Fo.list] at h0
   subst hf
   refine ⟨na, nc, none, 0, Ln, e1, by rw [e2]; rfl, ⟨Ln, [], by simp, n1, n2, ⟨Nat.le_refl _, fun _ => rfl, by decide⟩, .inl ⟨rfl, rfl⟩⟩, fun x hx => ?_⟩
   exact World.ownsRow.lt h.nm x (n3 x hx)
 . refine ⟨na, nc, some ⟨g, 0, none⟩, cap, Ln ++ (g :: Lf), e1, e2, ⟨Ln, g :: Lf, rfl, n1, n2, ⟨hle, fun c => (by cases c), hm⟩, .inr ⟨g, 0, cs, Lf, rfl, rfl, fun i => ?_, fun j u hj => ?_, h.lay⟩⟩, fun x hx => ?_⟩
   . rw [e2] at hk'
     exact World.ownsRow.frozenAt hk' i
   . have := World.ownsRow.cells hk' (g := g) (by rw [e2]; rfl) j u hj
     rw [Addr.add_lit] at this
     exact this
   . rcases List.mem_append.1 hx with hx | hx
     . exact World.ownsRow.lt h.nm x (n3 x hx)
     . rcases List.mem_cons.1 hx with rfl | hx
       . exact World.ownsRow.lt h.kd x (by rw [e2]; rfl)
       . have := h.rng x hx
         exact ⟨this.1, this.2.1⟩
end
theorem sNm : (Tryz.prog.info? 36).map (·.size) = some 1 := by kernel_rfl
theorem sKd : (Tryz.prog.info? 22).map (·.size) = some 1 := by kernel_rfl
end Go.Proofs.YtobfdcdobhhagaaGreatDoor
