/-
  What lies in memory while a List or a Struct is read, whatever the reader. · Appending names and kids, as an operation of a region. · A list of values that is read: what lies in memory, and what was read. · The document's own order: Abs, Dec, texts.
-/
import Derived.Test.YtmlfhplhiedfjaaGreatDoorOG13x
import Derived.Test.YtmlfhplhiedfjaaGreatDoorOKh
import Derived.Test.YtmlfhplhiedfjaaGreatDoorOG9x
import Derived.Maps.AppendAt
import Derived.Test.YtmlfhplhiedfjaaGreatDoorOG14x
namespace Go.Proofs.YtmlfhplhiedfjaaGreatDoor
open Go.RowKit Math
set_option linter.unusedVariables false
set_option linter.unusedSimpArgs false
/-- A reader in memory. -/
structure Kr (t : TypeId) (r : Nat) (W wr : World) (rc : List Value) : Prop where
  blk : Blk wr r t rc
  gr : W.grownBy wr (some r)
theorem Kr.trans {t : TypeId} {r : Nat} {W w1 w2 : World} {rc rc' : List Value} (h : Kr t r W w1 rc) (k : Kr t r w1 w2 rc') : Kr t r W w2 rc' := ⟨k.blk, h.gr.trans k.gr⟩
theorem Kr.then {t : TypeId} {r : Nat} {W w1 w2 : World} {rc : List Value} (h : Kr t r W w1 rc) (k : Below w1.heap.size w1 w2) : Kr t r W w2 rc :=
  ⟨h.blk.below k h.blk.lt, ⟨k.os.trans h.gr.os, k.tape.trans h.gr.tape, k.output.trans h.gr.output, Nat.le_trans h.gr.size k.size, fun x hx hne => (k.block x (Nat.lt_of_lt_of_le hx h.gr.size)).trans (h.gr.block x hx hne)⟩⟩
theorem lay_snoc {w : World} {q : Vt} {na : Option Addr} {nc : Nat} {ka : Option Addr} {kc : Nat} {Lq : List Nat} (hq : VlL w q na nc ka kc Lq) : ∀ (f : Fo) {cs : List Value} {L : List Nat}, Lay w f cs L → Lay w (f.snoc q) (cs ++ six q.1 na nc ka q.2.list.length kc) (L ++ Lq)
  | .nil, cs, L, hl => by
    obtain ⟨rfl, rfl⟩ := hl
    exact (lay_cons (q := q)).2 ⟨na, nc, ka, kc, [], Lq, [], by simp, by simp, hq, ⟨rfl, rfl⟩⟩
  | .cons h kk r, cs, L, hl => by
    obtain ⟨na1, nc1, ka1, kc1, cs', L1, L2, rfl, rfl, hv, h7⟩ := (lay_cons (q := (h, kk))).1 hl
    exact (lay_cons (q := (h, kk))).2 ⟨na1, nc1, ka1, kc1, _, L1, _, by rw [List.append_assoc], by rw [List.append_assoc], hv, lay_snoc hq r h7⟩
structure Od (W : World) (r g6 g8 B : Nat) : Prop where
  r : r < W.heap.size
  l6 : W.heap.size ≤ g6
  l8 : g6 < g8
  lB : g8 < B
structure NK (t : TypeId) (B g6 g8 r : Nat) (W : World) (k : Int) (wr : World) (rc : List Value) (ns : List ByteArray) (f : Fo) (vn vk : Value) (cs : List Value) (Lf : List Nat) : Prop where
  ro : Kr t r W wr rc
  b6 : Blk wr g6 38 zer
  b8 : Blk wr g8 38 [.int .i64 k, .int .i64 0, .int .i64 0, .string ⟨#[]⟩, vn, vk]
  nm : wr.ownsRow B 9 1 vn ns.length (ns.map Value.string)
  kd : wr.ownsRow B 38 6 vk f.list.length cs
  lay : Lay wr f cs Lf
  rng : ∀ x ∈ Lf, B ≤ x ∧ x < wr.heap.size ∧ vn.ownBlock ≠ some x ∧ vk.ownBlock ≠ some x
  nk : ∀ x, vn.ownBlock = some x → vk.ownBlock ≠ some x
  sz : B ≤ wr.heap.size
section
variable {t : TypeId} {B g6 g8 r : Nat} {W : World} {k : Int} {wr w' : World} {rc rc' : List Value} {ns : List ByteArray} {f : Fo} {vn vk : Value} {cs : List Value} {Lf : List Nat}
theorem NK.read (h : NK t B g6 g8 r W k wr rc ns f vn vk cs Lf) (o : Od W r g6 g8 B) (k' : Kr t r wr w' rc') : NK t B g6 g8 r W k w' rc' ns f vn vk cs Lf := by
  have o1 := o.r
  have o2 := o.l6
  have o3 := o.l8
  have o4 := o.lB
  refine ⟨h.ro.trans k', h.b6.kept k'.gr (by intro c; injection c with c; omega), h.b8.kept k'.gr (by intro c; injection c with c; omega), World.ownsRow.kept h.nm k'.gr (.inr fun c => ?_), World.ownsRow.kept h.kd k'.gr (.inr fun c => ?_), Lay.keep _ h.lay fun x hx => ?_, fun x hx => ?_, h.nk, Nat.le_trans h.sz k'.gr.size⟩
  · have := (World.ownsRow.lt h.nm _ c).1
    omega
  · have := (World.ownsRow.lt h.kd _ c).1
    omega
  · have := h.rng x hx
    exact k'.gr.block x this.2.1 (by intro c; injection c with c; omega)
  · have := h.rng x hx
    have := k'.gr.size
    exact ⟨by omega, by omega, (h.rng x hx).2.2⟩
theorem NK.below (h : NK t B g6 g8 r W k wr rc ns f vn vk cs Lf) (g : Below wr.heap.size wr w') : NK t B g6 g8 r W k w' rc ns f vn vk cs Lf := by
  have g' : wr.grownBy w' none := ⟨g.os, g.tape, g.output, g.size, fun x hx _ => g.block x hx⟩
  refine ⟨h.ro.then g, h.b6.below g h.b6.lt, h.b8.below g h.b8.lt, World.ownsRow.kept h.nm g' (by simpa using Classical.em _), World.ownsRow.kept h.kd g' (by simpa using Classical.em _), Lay.keep _ h.lay fun x hx => g.block x (h.rng x hx).2.1, fun x hx => ?_, h.nk, Nat.le_trans h.sz g.size⟩
  have := h.rng x hx
  have := g.size
  exact ⟨by omega, by omega, (h.rng x hx).2.2⟩
theorem kr_grown {w1 : World} {row : Option Nat} (h : Kr t r W wr rc) (g : wr.grownBy w1 row) (hr : ∀ x, row = some x → x ≠ r ∧ W.heap.size ≤ x) : Kr t r W w1 rc := by
  refine ⟨h.blk.kept g (fun c => (hr r c.symm).1 rfl), ⟨g.os.trans h.gr.os, g.tape.trans h.gr.tape, g.output.trans h.gr.output, Nat.le_trans h.gr.size g.size, fun x hx hne => (g.block x (Nat.lt_of_lt_of_le hx h.gr.size) ?_).trans (h.gr.block x hx hne)⟩⟩
  intro c
  have := (hr x c.symm).2
  omega
/-- A name more. -/
theorem NK.name {w1 w2 w3 : World} {vn' : Value} {s : ByteArray} (h : NK t B g6 g8 r W k wr rc ns f vn vk cs Lf) (o : Od W r g6 g8 B) (hb : Below wr.heap.size wr w1) (g : w1.grownBy w2 vn.ownBlock) (hn : w2.ownsRow B 9 1 vn' (ns.length + 1) (ns.map Value.string ++ [.string s])) (hat : vn'.ownBlock = vn.ownBlock ∨ vn'.ownBlock = some w1.heap.size)
    (hs : Blk w3 g8 38 [.int .i64 k, .int .i64 0, .int .i64 0, .string ⟨#[]⟩, vn', vk]) (g3 : w2.grownBy w3 (some g8)) : NK t B g6 g8 r W k w3 rc (ns ++ [s]) f vn' vk cs Lf := by
  have o1 := o.r
  have o2 := o.l6
  have o3 := o.l8
  have o4 := o.lB
  have h1 := h.below hb
  have hsz := h.ro.gr.size
  have hsz1 := hb.size
  have ln := fun x c => World.ownsRow.lt h1.nm x c
  have lk := fun x c => World.ownsRow.lt h1.kd x c
  have ro2 := kr_grown h1.ro g (fun x c => by have := ln x c; omega)
  have ro3 := kr_grown ro2 g3 (fun x c => by injection c with c; omega)
  have ln' := fun x c => World.ownsRow.lt hn x c
  refine ⟨ro3, (h1.b6.kept g fun c => ?_).kept g3 (by intro c; injection c with c; omega), hs, ?_, World.ownsRow.kept (World.ownsRow.kept h1.kd g ?_) g3 (.inr fun c => ?_), Lay.keep _ h1.lay fun x hx => ?_, fun x hx => ?_, fun x c => ?_, Nat.le_trans h1.sz (Nat.le_trans g.size g3.size)⟩
  · have := ln _ c.symm
    omega
  · rw [List.length_append, List.map_append]
    exact World.ownsRow.kept hn g3 (.inr fun c => by have := ln' _ c; omega)
  · cases hv : vk.ownBlock with
    | none => exact .inl rfl
    | some x => exact .inr fun c => h1.nk x c.symm hv
  · have := lk _ c
    omega
  · obtain ⟨a1, a2, a3, a4⟩ := h1.rng x hx
    rw [g3.block x (Nat.lt_of_lt_of_le a2 g.size) (by intro c; injection c with c; omega)]
    exact g.block x a2 (fun c => a3 c.symm)
  · obtain ⟨a1, a2, a3, a4⟩ := h1.rng x hx
    have := g.size
    have := g3.size
    refine ⟨a1, by omega, ?_, a4⟩
    rcases hat with c | c
    · rw [c]; exact a3
    · rw [c]; intro c; injection c with c; omega
  · rcases hat with c2 | c2
    · exact h1.nk x (by rw [← c2]; exact c)
    · intro c3
      rw [c2] at c
      injection c with c
      have := lk x c3
      omega
/-- A kid more. -/
theorem NK.kid {w1 w2 w3 : World} {vk' : Value} {q : Vt} {na : Option Addr} {nc : Nat} {ka : Option Addr} {kc : Nat} {Lq : List Nat} (h : NK t B g6 g8 r W k wr rc ns f vn vk cs Lf) (o : Od W r g6 g8 B) (hv : VlL wr q na nc ka kc Lq) (hr : ∀ x ∈ Lq, B ≤ x ∧ x < wr.heap.size ∧ vn.ownBlock ≠ some x ∧ vk.ownBlock ≠ some x)
    (hb : Below wr.heap.size wr w1) (g : w1.grownBy w2 vk.ownBlock) (hn : w2.ownsRow B 38 6 vk' (f.list.length + 1) (cs ++ six q.1 na nc ka q.2.list.length kc)) (hat : vk'.ownBlock = vk.ownBlock ∨ vk'.ownBlock = some w1.heap.size)
    (hs : Blk w3 g8 38 [.int .i64 k, .int .i64 0, .int .i64 0, .string ⟨#[]⟩, vn, vk']) (g3 : w2.grownBy w3 (some g8)) : NK t B g6 g8 r W k w3 rc ns (f.snoc q) vn vk' (cs ++ six q.1 na nc ka q.2.list.length kc) (Lf ++ Lq) := by
  have o1 := o.r
  have o2 := o.l6
  have o3 := o.l8
  have o4 := o.lB
  have h1 := h.below hb
  have hsz := h.ro.gr.size
  have hsz1 := hb.size
  have ln := fun x c => World.ownsRow.lt h1.nm x c
  have lk := fun x c => World.ownsRow.lt h1.kd x c
  have ro2 := kr_grown h1.ro g (fun x c => by have := lk x c; omega)
  have ro3 := kr_grown ro2 g3 (fun x c => by injection c with c; omega)
  have lk' := fun x c => World.ownsRow.lt hn x c
  have kp : ∀ x, B ≤ x → x < w1.heap.size → vk.ownBlock ≠ some x → w3.heap[x]? = w1.heap[x]? := fun x a1 a2 a4 => by
    rw [g3.block x (Nat.lt_of_lt_of_le a2 g.size) (by intro c; injection c with c; omega)]
    exact g.block x a2 (fun c => a4 c.symm)
  refine ⟨ro3, (h1.b6.kept g fun c => ?_).kept g3 (by intro c; injection c with c; omega), hs, World.ownsRow.kept (World.ownsRow.kept h1.nm g ?_) g3 (.inr fun c => ?_), ?_, lay_snoc (VlL.keep hv fun x hx => ?_) _ (Lay.keep _ h1.lay fun x hx => ?_), fun x hx => ?_, fun x c => ?_, Nat.le_trans h1.sz (Nat.le_trans g.size g3.size)⟩
  · have := lk _ c.symm
    omega
  · cases hv : vn.ownBlock with
    | none => exact .inl rfl
    | some x => exact .inr fun c => h1.nk x hv c.symm
  · have := ln _ c
    omega
  · rw [snoc_list, List.length_append]
    exact World.ownsRow.kept hn g3 (.inr fun c => by have := lk' _ c; omega)
  · obtain ⟨a1, a2, a3, a4⟩ := hr x hx
    rw [kp x a1 (by omega) a4]
    exact hb.block x a2
  · obtain ⟨a1, a2, a3, a4⟩ := h1.rng x hx
    exact kp x a1 a2 a4
  · have g1 := g.size
    have g2 := g3.size
    have key : B ≤ x ∧ x < w1.heap.size ∧ vn.ownBlock ≠ some x ∧ vk.ownBlock ≠ some x := by
      rcases List.mem_append.1 hx with hx | hx
      · exact h1.rng x hx
      · obtain ⟨a1, a2, a3, a4⟩ := hr x hx
        exact ⟨a1, by omega, a3, a4⟩
    refine ⟨key.1, by omega, key.2.2.1, ?_⟩
    rcases hat with c | c
    · rw [c]; exact key.2.2.2
    · rw [c]; intro c; injection c with c; have := key.2.1; omega
  · intro c3
    rcases hat with c2 | c2
    · exact h1.nk x c (by rw [← c2]; exact c3)
    · rw [c2] at c3
      injection c3 with c3
      have := ln x c
      omega
/-- What is answered in the end. -/
theorem NK.val (h : NK t B g6 g8 r W k wr rc ns f vn vk cs Lf) : ∃ na nc ka kc Lp, vn = .slice na ns.length nc ∧ vk = .slice ka f.list.length kc ∧ VlL wr (nst k (f, ns)) na nc ka kc Lp ∧ ∀ x ∈ Lp, B ≤ x ∧ x < wr.heap.size := by
  obtain ⟨na, nc, Ln, e1, n1, n2, n3, _⟩ := nml_of h.nm
  have hk := h.kd
  have hk' := h.kd
  rcases hk with ⟨_, ⟨e2, h0⟩ | ⟨g, cap, cur, e2, hg, hh, hle, hm, _⟩⟩
  · have hf : f = .nil := by
      cases f with
      | nil => rfl
      | cons a b c => simp [Fo.list] at h0
    subst hf
    refine ⟨na, nc, none, 0, Ln, e1, by rw [e2]; rfl, ⟨Ln, [], by simp, n1, n2, ⟨Nat.le_refl _, fun _ => rfl, by decide⟩, .inl ⟨rfl, rfl⟩⟩, fun x hx => ?_⟩
    exact World.ownsRow.lt h.nm x (n3 x hx)
  · refine ⟨na, nc, some ⟨g, 0, none⟩, cap, Ln ++ (g :: Lf), e1, e2, ⟨Ln, g :: Lf, rfl, n1, n2, ⟨hle, fun c => (by cases c), hm⟩, .inr ⟨g, 0, cs, Lf, rfl, rfl, fun i => ?_, fun j u hj => ?_, h.lay⟩⟩, fun x hx => ?_⟩
    · rw [e2] at hk'
      exact World.ownsRow.frozenAt hk' i
    · have := World.ownsRow.cells hk' (g := g) (by rw [e2]; rfl) j u hj
      rw [Addr.add_lit] at this
      exact this
    · rcases List.mem_append.1 hx with hx | hx
      · exact World.ownsRow.lt h.nm x (n3 x hx)
      · rcases List.mem_cons.1 hx with rfl | hx
        · exact World.ownsRow.lt h.kd x (by rw [e2]; rfl)
        · have := h.rng x hx
          exact ⟨this.1, this.2.1⟩
end
theorem sNm : (Tryz.prog.info? 36).map (·.size) = some 1 := by kernel_rfl
theorem sKd : (Tryz.prog.info? 22).map (·.size) = some 1 := by kernel_rfl
end Go.Proofs.YtmlfhplhiedfjaaGreatDoor
namespace Go.Proofs.YtmlfhplhiedfjaaGreatDoor
open Go.RowKit Math
set_option linter.unusedVariables false
set_option linter.unusedSimpArgs false
end Go.Proofs.YtmlfhplhiedfjaaGreatDoor
namespace Go.Proofs.YtmlfhplhiedfjaaGreatDoor
open Go.RowKit Math
set_option linter.unusedVariables false
set_option linter.unusedSimpArgs false
structure TL (t : TypeId) (B r : Nat) (W wr : World) (rc : List Value) (f : Fo) (vk : Value) (cs : List Value) (Lf : List Nat) : Prop where
  blk : Blk wr r t rc
  bl : Below W.heap.size W wr
  kd : wr.ownsRow B 38 6 vk f.list.length cs
  lay : Lay wr f cs Lf
  rng : ∀ x ∈ Lf, B ≤ x ∧ x < wr.heap.size ∧ vk.ownBlock ≠ some x
  sz : B ≤ wr.heap.size
  rW : W.heap.size ≤ r
  rB : r < B
section
variable {t : TypeId} {B r : Nat} {W wr w' : World} {rc rc' : List Value} {f : Fo} {vk : Value} {cs : List Value} {Lf : List Nat}
theorem TL.read (h : TL t B r W wr rc f vk cs Lf) (hb : Blk w' r t rc') (g : wr.grownBy w' (some r)) : TL t B r W w' rc' f vk cs Lf := by
  have h1 := h.rW
  have h2 := h.rB
  refine ⟨hb, h.bl.grown g h.bl.size (fun x e => by injection e with e; omega), World.ownsRow.kept h.kd g (.inr fun c => ?_), Lay.keep _ h.lay fun x hx => ?_, fun x hx => ?_, Nat.le_trans h.sz g.size, h.rW, h.rB⟩
  · have := (World.ownsRow.lt h.kd _ c).1
    omega
  · have := h.rng x hx
    exact g.block x this.2.1 (by intro c; injection c with c; omega)
  · have := h.rng x hx
    have := g.size
    exact ⟨by omega, by omega, (h.rng x hx).2.2⟩
theorem TL.below (h : TL t B r W wr rc f vk cs Lf) (g : Below wr.heap.size wr w') : TL t B r W w' rc f vk cs Lf := by
  have g' : wr.grownBy w' none := ⟨g.os, g.tape, g.output, g.size, fun x hx _ => g.block x hx⟩
  refine ⟨h.blk.below g h.blk.lt, h.bl.trans (g.mono h.bl.size), World.ownsRow.kept h.kd g' (by simpa using Classical.em _), Lay.keep _ h.lay fun x hx => g.block x (h.rng x hx).2.1, fun x hx => ?_, Nat.le_trans h.sz g.size, h.rW, h.rB⟩
  have := h.rng x hx
  have := g.size
  exact ⟨by omega, by omega, (h.rng x hx).2.2⟩
theorem TL.kid {w1 w2 : World} {vk' : Value} {q : Vt} {na : Option Addr} {nc : Nat} {ka : Option Addr} {kc : Nat} {Lq : List Nat} (h : TL t B r W wr rc f vk cs Lf) (hv : VlL wr q na nc ka kc Lq) (hr : ∀ x ∈ Lq, B ≤ x ∧ x < wr.heap.size ∧ vk.ownBlock ≠ some x)
    (hb : Below wr.heap.size wr w1) (g : w1.grownBy w2 vk.ownBlock) (hn : w2.ownsRow B 38 6 vk' (f.list.length + 1) (cs ++ six q.1 na nc ka q.2.list.length kc)) (hat : vk'.ownBlock = vk.ownBlock ∨ vk'.ownBlock = some w1.heap.size) : TL t B r W w2 rc (f.snoc q) vk' (cs ++ six q.1 na nc ka q.2.list.length kc) (Lf ++ Lq) := by
  have h1 := h.below hb
  have o1 := h.rW
  have o2 := h.rB
  have hsz1 := hb.size
  have lk := fun x c => World.ownsRow.lt h1.kd x c
  have lk' := fun x c => World.ownsRow.lt hn x c
  refine ⟨h1.blk.kept g (fun c => ?_), h1.bl.grown g h1.bl.size (fun x c => ?_), ?_, lay_snoc (VlL.keep hv fun x hx => ?_) _ (Lay.keep _ h1.lay fun x hx => ?_), fun x hx => ?_, Nat.le_trans h1.sz g.size, h.rW, h.rB⟩
  · have := lk _ c.symm
    omega
  · have := lk x c
    omega
  · rw [snoc_list, List.length_append]
    exact hn
  · obtain ⟨a1, a2, a4⟩ := hr x hx
    rw [g.block x (by omega) (fun c => a4 c.symm)]
    exact hb.block x a2
  · obtain ⟨a1, a2, a4⟩ := h1.rng x hx
    exact g.block x a2 (fun c => a4 c.symm)
  · have g1 := g.size
    have key : B ≤ x ∧ x < w1.heap.size ∧ vk.ownBlock ≠ some x := by
      rcases List.mem_append.1 hx with hx | hx
      · exact h1.rng x hx
      · obtain ⟨a1, a2, a4⟩ := hr x hx
        exact ⟨a1, by omega, a4⟩
    refine ⟨key.1, by omega, ?_⟩
    rcases hat with c | c
    · rw [c]; exact key.2.2
    · rw [c]; intro c; injection c with c; have := key.2.1; omega
theorem TL.val (h : TL t B r W wr rc f vk cs Lf) : ∃ ka kc, vk = .slice ka f.list.length kc ∧ Lv wr ka kc f := by
  have hk := h.kd
  have hk' := h.kd
  rcases hk with ⟨_, ⟨e2, h0⟩ | ⟨g, cap, cur, e2, hg, hh, hle, hm, _⟩⟩
  · have hf := nil_of h0
    subst hf
    refine ⟨none, 0, by rw [e2]; rfl, VlL.vl (L := []) ⟨[], [], rfl, .inl ⟨rfl, rfl⟩, ⟨Nat.le_refl _, fun _ => rfl, by decide⟩, ⟨Nat.le_refl _, fun _ => rfl, by decide⟩, .inl ⟨rfl, rfl⟩⟩⟩
  · refine ⟨some ⟨g, 0, none⟩, cap, e2, VlL.vl (L := g :: Lf) ⟨[], g :: Lf, rfl, .inl ⟨rfl, rfl⟩, ⟨Nat.le_refl _, fun _ => rfl, by decide⟩, ⟨hle, fun c => (by cases c), hm⟩, .inr ⟨g, 0, cs, Lf, rfl, rfl, fun i => ?_, fun j u hj => ?_, h.lay⟩⟩⟩
    · rw [e2] at hk'
      exact World.ownsRow.frozenAt hk' i
    · have := World.ownsRow.cells hk' (g := g) (by rw [e2]; rfl) j u hj
      rw [Addr.add_lit] at this
      exact this
end
theorem app_kz {ops : Array Oper} {rest : List Oper} {o : Oper} {a : Act} {Q : Exit → Act → World → Prop} {w : World} (hgd : o.guard = none) (s x : Operand)
    (ho : o.op = .call { callee := .builtin .append, args := #[s, x], argTypes := #[22, 22] })
    (base : Nat) (v : Value) (n : Nat) (xs : List Value) (hs : a.eval s = v) (hown : w.ownsRow base 38 6 v n xs) (b : Nat) (m c : Nat) (news : List Value) (hx : a.eval x = .slice (some ⟨b, 0, none⟩) m c) (hl : news.length = m * 6) (hc : ∀ j u, news[j]? = some u → w.cell? ⟨b, j, none⟩ = some u) (h1 : ∀ u ∈ news, u.oneCell' = true)
    (hb : n + m ≤ 100000) (hbase : base ≤ w.heap.size)
    (h : ∀ v' w', w'.ownsRow base 38 6 v' (n + m) (xs ++ news) → w.grownBy w' v.ownBlock → (v'.ownBlock = v.ownBlock ∨ v'.ownBlock = some w.heap.size) → wpList Tryz.prog ops Q rest (a.put o.dst v') w') : wpList Tryz.prog ops Q (o :: rest) a w :=
  wpList_plain hgd fun K hK => oper_apk s x ho base v n xs hs hown b m c news hx hl hc h1 hb hbase fun v' w' r1 r2 r3 => hK _ _ (h v' w' r1 r2 r3)
/-! ### what was read -/
theorem chkL_snoc (p : Vt) : ∀ f : Fo, chkL f = 0 → chkV p 1 = 0 → chkL (f.snoc p) = 0
  | .nil, _, h => by
    show (if chkV (p.1, p.2) 1 ≠ 0 then chkV (p.1, p.2) 1 else chkL .nil) = 0
    rw [if_neg (by simpa using h)]
    rfl
  | .cons hd k r, hc, h => by
    unfold chkL at hc
    show (if chkV (hd, k) 1 ≠ 0 then chkV (hd, k) 1 else chkL (r.snoc p)) = 0
    split at hc
    · next x => exact absurd hc x
    · next x => rw [if_neg x]; exact chkL_snoc p r hc h
theorem chkL_parts {h : Hd} {k r : Fo} (hc : chkL (.cons h k r) = 0) : chkV (h, k) 1 = 0 ∧ chkL r = 0 := by
  unfold chkL at hc
  split at hc
  · next x => exact absurd hc x
  · next x => exact ⟨Classical.byContradiction x, hc⟩
structure Tc (L l' : List Nat) (f : Fo) : Prop where
  co : ∀ g, Wf g → chkL g = 0 → L = keyF g false [] → ∃ g2, g = f.app g2 ∧ l' = keyF g2 false [] ∧ Wf g2 ∧ chkL g2 = 0
structure Tp (L l' : List Nat) (f : Fo) : Prop extends Tc L l' f where
  so : L = keyF f false [] ++ l'
  ck : chkL f = 0
theorem Tc.start (L : List Nat) : Tc L L .nil := ⟨fun g hw hc hl => ⟨g, rfl, hl, hw, hc⟩⟩
theorem Tp.start (L : List Nat) : Tp L L .nil := ⟨Tc.start L, rfl, rfl⟩
/-- A value that must come next. -/
theorem Tc.next {sd : Prop} {L l' l2 : List Nat} {bad : Bool} {f : Fo} {v : Vt} (h : Tc L l' f) (hne : l' ≠ []) (R : Vr sd 1 l' false l2 bad v) (g : Fo) (hw : Wf g) (hc : chkL g = 0) (hl : L = keyF g false []) : bad = false ∧ chkV v 1 = 0 ∧ ∃ g2, g = (f.snoc v).app g2 ∧ l2 = keyF g2 false [] ∧ Wf g2 ∧ chkL g2 = 0 := by
  obtain ⟨g2, e1, e2, e3, e4⟩ := h.co g hw hc hl
  cases g2 with
  | nil => exact absurd e2 hne
  | cons hd k r =>
    obtain ⟨w1, w2⟩ := wf_cons e3
    obtain ⟨c1, c2⟩ := chkL_parts e4
    rw [show keyF (.cons hd k r) false [] = _ from keyF_cons (hd, k) r false []] at e2
    simp only [Bool.false_eq_true, if_false, List.nil_append, List.tail_nil] at e2
    obtain ⟨r1, r2, r3⟩ := R.rd.co rfl (hd, k) _ ⟨w1, c1⟩ e2
    subst r2
    exact ⟨r1, c1, r, by rw [e1, app_snoc], r3, w2, c2⟩
theorem Tc.step {sd : Prop} {L l' l2 : List Nat} {bad : Bool} {f : Fo} {v : Vt} (h : Tc L l' f) (hne : l' ≠ []) (R : Vr sd 1 l' false l2 bad v) : Tc L l2 (f.snoc v) :=
  ⟨fun g hw hc hl => (h.next hne R g hw hc hl).2.2⟩
theorem Tp.step {L l' l2 : List Nat} {f : Fo} {v : Vt} (h : Tp L l' f) (hne : l' ≠ []) (R : Vr True 1 l' false l2 false v) (hv : chkV v 1 = 0) : Tp L l2 (f.snoc v) := by
  refine ⟨h.toTc.step hne R, ?_, chkL_snoc v f h.ck hv⟩
  have h1 := (R.rd.so rfl).2 ⟨trivial, chk1 hv⟩
  have h2 := keyF_snoc v ⟨#[]⟩ f false [] (by simp)
  simp only [Bool.false_eq_true, if_false] at h2
  rw [h2, h.so, h1]
  simp
theorem app_len (f g : Fo) : f.list.length ≤ (f.app g).list.length := by rw [app_list, List.length_append]; omega
end Go.Proofs.YtmlfhplhiedfjaaGreatDoor
namespace Go.Proofs.YtmlfhplhiedfjaaGreatDoor
open Go.RowKit Math
set_option linter.unusedVariables false
set_option linter.unusedSimpArgs false
set_option maxRecDepth 8000 in
theorem abs_any (n : Int) (n0 : -9223372036854775808 ≤ n) (n1 : n < 9223372036854775808) (W : World) :
    Calls Tryz.prog 112 #[.int .i64 n] W fun e w' => e = .returned (.int .u64 (n.natAbs : Int)) ∧ w' = W := by
  by_cases h : n < 0
  · obtain ⟨m, rfl⟩ : ∃ m : Nat, n = -(m : Int) - 1 := ⟨(-n - 1).toNat, by omega⟩
    have e : ((-(m : Int) - 1).natAbs : Int) = (m : Int) + 1 := by omega
    rw [e]
    have h1 : decide (-(m : Int) - 1 < 0) = true := decide_eq_true (by omega)
    have h2 : -(-(m : Int) - 1 + 1) = (m : Int) := by omega
    go_enter Tryz.func112, Tryz.ntmps112
    go_wp2
    go_ret
    exact ⟨by go_num, rfl⟩
  · obtain ⟨m, rfl⟩ : ∃ m : Nat, n = (m : Int) := ⟨n.toNat, by omega⟩
    have h1 : decide ((m : Int) < 0) = false := decide_eq_false (by omega)
    rw [Int.natAbs_natCast]
    go_enter Tryz.func112, Tryz.ntmps112
    go_wp2
    go_ret
    exact ⟨rfl, rfl⟩
/-- A number's digits as text. -/
def txD (l : List Nat) : ByteArray := ofB (l.map fun d => 48 + d)
theorem txD_size (l : List Nat) : (txD l).size = l.length := by unfold txD; rw [ofB_size, List.length_map]
theorem txD_bts {l : List Nat} (h : ∀ x ∈ l, x < 10) : bts (txD l) = l.map fun d => 48 + d := bts_ofB _ (fun x hx => by
  obtain ⟨y, hy, rfl⟩ := List.mem_map.1 hx
  have := h y hy
  omega)
theorem txD_cons (d : Nat) (l : List Nat) (hd : d < 10) (hl : ∀ x ∈ l, x < 10) : ofB [48 + d] ++ txD l = txD (d :: l) := by
  apply bts_inj
  rw [bts_app, txD_bts hl, txD_bts (fun x hx => by rcases List.mem_cons.1 hx with rfl | h; exact hd; exact hl x h), bts_ofB _ (fun x hx => by simp at hx; omega)]
  rfl
set_option maxRecDepth 8000 in
set_option maxHeartbeats 1000000 in
theorem dec_any (m : Nat) (hm : 0 < m) (hm2 : m < 18446744073709551616) (W : World) :
    Calls Tryz.prog 64 #[.int .u64 (m : Int)] W fun e w' => e = .returned (.string (txD (dgs 20 m))) ∧ Below W.heap.size W w' := by
  go_enter Tryz.func64, Tryz.ntmps64
  go_wp2
  go_loopw [0, 3] (fun p q wr => ∃ (v : Nat) (low : List Nat), v < 18446744073709551616 ∧ 0 < v ∧ low.length ≤ 19 ∧ p = .int .u64 (v : Int) ∧ q = .string (txD low) ∧ Hid (v < 10 ^ (20 - low.length) ∧ dgs 20 m = dgs (20 - low.length) v ++ low ∧ ∀ x ∈ low, x < 10) ∧ Hid (Below W.heap.size W wr)) (fun p _ _ => (intOf p).toNat)
  case atStart => exact ⟨m, [], hm2, hm, by simp, rfl, rfl, ⟨by show m < 10 ^ 20; omega, by simp, fun x hx => by cases hx⟩, Below.refl _ _⟩
  case round =>
    obtain ⟨v, low, hv, hv0, hll, rfl, rfl, HI, HB⟩ := hrel
    obtain ⟨d, hd⟩ : ∃ d, d = v % 10 := ⟨_, rfl⟩
    have hd10 : d < 10 := by omega
    have hde : (v : Int) % 10 = (d : Int) := by omega
    have hcv := conv_byt (w := wr.alloc (.cells (vals [48 + d]).toArray 5)) (c := 1) (byt_lit wr [48 + d]) (fun x hx => by simp at hx; omega) (by simp)
    replace hcv : (convert 52 9 (.slice (some ⟨wr.heap.size, 0, none⟩) 1 1)).run Tryz.prog (wr.alloc (.cells #[.int .u8 (48 + (d : Int))] 5)) = .ok (.string (ofB [48 + d])) (wr.alloc (.cells #[.int .u8 (48 + (d : Int))] 5)) := by
      have e : ((48 + d : Nat) : Int) = 48 + (d : Int) := by omega
      have e2 : (vals [48 + d]).toArray = #[.int .u8 (48 + (d : Int))] := by simp [vals, e]
      rw [e2] at hcv
      exact hcv
    have hD1 : (ofB [48 + d]).size = 1 := by rw [ofB_size]; rfl
    have hS1 : (txD low).size = low.length := txD_size low
    have hsz : ¬ 9223372036854775807 < (ofB [48 + d]).size + (txD low).size := by omega
    have hcc : ofB [48 + d] ++ txD low = txD (d :: low) := txD_cons d low hd10 HI.out.2.2
    have HB2 : Hid (Below W.heap.size W (wr.alloc (.cells #[.int .u8 (48 + (d : Int))] 5))) := HB.out.alloc HB.out.size _
    have HD : Hid (d = v % 10) := hd
    have HS : Hid (dgs (20 - low.length) v = dgs (19 - low.length) (v / 10) ++ [d]) := by
      show _ = _
      rw [show 20 - low.length = (19 - low.length) + 1 by omega, dgs, if_neg (by omega), HD.out]
    clear hd
    by_cases h10 : v < 10
    · have e0 : (v : Int) / 10 = 0 := by omega
      have HR : Hid (dgs 20 m = d :: low) := by
        show _ = _
        rw [HI.out.2.1, HS.out, show v / 10 = 0 by omega]
        have : dgs (19 - low.length) 0 = [] := by cases (19 - low.length) <;> rfl
        rw [this]
        rfl
      go_wp2
      go_ret
      exact ⟨by rw [HR.out]; rfl, HB2.out⟩
    · obtain ⟨v', hv'⟩ : ∃ v', v / 10 = v' := ⟨_, rfl⟩
      have e0 : (v : Int) / 10 = (v' : Int) := by omega
      have e1 : ((v' : Int) == 0) = false := beq_eq_false_iff_ne.2 (by omega)
      have HR : Hid (v' < 10 ^ (20 - (d :: low).length) ∧ dgs 20 m = dgs (20 - (d :: low).length) v' ++ d :: low ∧ ∀ x ∈ d :: low, x < 10) := by
        have h1 := HI.out.1
        rw [show 20 - low.length = (19 - low.length) + 1 by omega, Nat.pow_succ] at h1
        refine ⟨by rw [List.length_cons, show 20 - (low.length + 1) = 19 - low.length by omega]; omega, ?_, fun x hx => by rcases List.mem_cons.1 hx with rfl | h; exact hd10; exact HI.out.2.2 x h⟩
        rw [HI.out.2.1, HS.out, hv', List.length_cons, show 20 - (low.length + 1) = 19 - low.length by omega, List.append_assoc]
        rfl
      have hlow : (d :: low).length ≤ 19 := by
        have h1 := HR.out.1
        rcases Nat.lt_or_ge 19 (d :: low).length with h | h
        · rw [show 20 - (d :: low).length = 0 by omega] at h1
          simp at h1
          omega
        · exact h
      have hv1 : v' < v ∧ 0 < v' ∧ v' < 18446744073709551616 := by omega
      clear hv' HI HS HB
      go_wp2
      go_roundw
      case rel => exact ⟨v', d :: low, hv1.2.2, hv1.2.1, hlow, rfl, rfl, HR.out, HB2.out⟩
      case measure => simp [intOf]; omega
set_option maxRecDepth 8000 in
set_option maxHeartbeats 1000000 in
theorem rTx (v : Value) (l : List Nat) (s : ByteArray) (B : Nat) (W : World) (ho : Own W B v l) (hB : B ≤ W.heap.size) (hs : s.size ≤ 100000) (hl : l.length ≤ 700000000) :
    Calls Tryz.prog 133 #[v, .string s] W fun e w' => ∃ v', e = .returned v' ∧ Ap B W w' v v' (l ++ txK s) := by
  have HO : Hid (Own W B v l) := ho
  clear ho
  go_enter Tryz.func133, Tryz.ntmps133
  go_wp2
  go_loopw [0, 5] (fun vb i wr => ∃ k : Nat, k ≤ s.size ∧ i = .int .i64 (k : Int) ∧ Hid (Ap B W wr v vb (l ++ esc ((bts s).take k)))) (fun _ i _ => s.size - (intOf i).toNat)
  case atStart => exact ⟨0, by omega, rfl, (by show Ap _ _ _ _ _ _; simpa [esc] using Ap.refl HO.out)⟩
  case round =>
    obtain ⟨k, hk, rfl, HK⟩ := hrel
    have hBr : B ≤ wr.heap.size := by have := HK.out.gr.size; omega
    have hle : (l ++ esc ((bts s).take k)).length ≤ 700200000 := by
      have h1 := (esc_len ((bts s).take k)).2
      rw [List.length_take, bts_len] at h1
      rw [List.length_append]
      omega
    by_cases hlt : k < s.size
    · obtain ⟨x, hx⟩ : ∃ x, x = (s[k]'hlt).toNat := ⟨_, rfl⟩
      have hx2 : x < 256 := by rw [hx]; exact (s[k]'hlt).toNat_lt
      have hxs : (((s[k]'hlt).toNat : Nat) : Int) = (x : Int) := by rw [hx]
      have HT : Hid (esc ((bts s).take (k + 1)) = esc ((bts s).take k) ++ (if x = 0 then [0, 255] else [x])) := by
        show _ = _
        have hkl : k < (bts s).length := by rw [bts_len]; exact hlt
        have e : (bts s)[k] = x := by
          have := bts_get s k hlt
          rw [List.getD_eq_getElem?_getD, List.getElem?_eq_getElem hkl] at this
          rw [hx]
          exact this
        rw [List.take_add_one, List.getElem?_eq_getElem hkl, Option.toList_some, esc_app, e]
        congr 1
      clear hx
      obtain ⟨lk, HLK⟩ : ∃ lk, Hid (l ++ esc ((bts s).take k) = lk) := ⟨_, rfl⟩
      rw [HLK.out] at hle
      have HK' : Hid (Ap B W wr v u0 lk) := by rw [← HLK.out]; exact HK.out
      clear HK
      go_wp2_with (at_builtin; go_must (refine ap_bytes rfl (.tmp 12) (.tmp 16) rfl B u0 lk rfl (HK'.out.own.alloc _) _ _ _ [x] rfl rfl (byt_lit wr [x]) (by simp) (by simp only [List.length_singleton]; omega) (by simp; omega) ?_))
      intro v1 w1 A1
      have HA1 : Hid (Ap B W w1 v v1 (lk ++ [x])) := HK'.out.trans (Ap.after ((Below.refl _ _).alloc (Nat.le_refl _) _) A1)
      have hs1 := HA1.out.gr.size
      clear A1 HK'
      by_cases hz : x = 0
      · subst hz
        go_wp2_with (at_builtin; go_must (refine ap_bytes rfl (.tmp 22) (.tmp 23) rfl B v1 (lk ++ [0]) rfl (HA1.out.own.alloc _) _ _ _ [255] rfl rfl (byt_lit w1 [255]) (by simp) (by simp only [List.length_append, List.length_singleton]; omega) (by simp; omega) ?_))
        intro v2 w2 A2
        have HA2 : Hid (Ap B W w2 v v2 (l ++ esc ((bts s).take (k + 1)))) := by
          have h1 := HA1.out.trans (Ap.after ((Below.refl _ _).alloc (Nat.le_refl _) _) A2)
          show Ap _ _ _ _ _ _
          rw [HT.out, ← List.append_assoc, HLK.out]
          simpa using h1
        clear A2 HA1
        go_wp2
        go_roundw
        case rel => exact ⟨k + 1, by omega, by go_num, HA2.out⟩
        case measure => simp [intOf]; omega
      · have hzi : ((x : Int) == 0) = false := beq_eq_false_iff_ne.2 (by omega)
        have HA2 : Hid (Ap B W w1 v v1 (l ++ esc ((bts s).take (k + 1)))) := by
          show Ap _ _ _ _ _ _
          rw [HT.out, ← List.append_assoc, HLK.out, if_neg hz]
          exact HA1.out
        clear HA1
        go_wp2
        go_roundw
        case rel => exact ⟨k + 1, by omega, by go_num, HA2.out⟩
        case measure => simp [intOf]; omega
    · have HK' : Hid (Ap B W wr v u0 (l ++ esc (bts s))) := by
        have := HK.out
        rw [List.take_of_length_le (by rw [bts_len]; omega)] at this
        exact this
      rw [List.take_of_length_le (by rw [bts_len]; omega)] at hle
      obtain ⟨lk, HLK⟩ : ∃ lk, Hid (l ++ esc (bts s) = lk) := ⟨_, rfl⟩
      rw [HLK.out] at hle
      rw [HLK.out] at HK'
      clear HK
      go_wp2_with (at_builtin; go_must (refine ap_bytes rfl (.tmp 25) (.tmp 26) rfl B u0 lk rfl (HK'.out.own.alloc _) _ _ _ [0, 0] rfl rfl (byt_lit wr [0, 0]) (by simp) (by simp only [List.length_cons, List.length_nil]; omega) (by simp; omega) ?_))
      intro v2 w2 A2
      have HA2 : Hid (Ap B W w2 v v2 (l ++ txK s)) := by
        have h1 := HK'.out.trans (Ap.after ((Below.refl _ _).alloc (Nat.le_refl _) _) A2)
        show Ap _ _ _ _ _ _
        unfold txK
        rw [← List.append_assoc, HLK.out]
        exact h1
      clear A2 HK'
      go_wp2
      go_ret
      exact ⟨v2, rfl, HA2.out⟩
end Go.Proofs.YtmlfhplhiedfjaaGreatDoor
