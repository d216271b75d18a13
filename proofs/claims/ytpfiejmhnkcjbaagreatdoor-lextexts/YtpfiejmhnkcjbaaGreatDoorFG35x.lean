/-
  What lies in memory while a List or a Struct is read, whatever the reader. · A strings.Builder that the call made: copyCheck, WriteByte, WriteString, String.
-/
import Derived.Test.YtpfiejmhnkcjbaaGreatDoorFMc
import Derived.Test.YtpfiejmhnkcjbaaGreatDoorFG8x
import Derived.Test.YtpfiejmhnkcjbaaGreatDoorFG7x
import Derived.Test.YtpfiejmhnkcjbaaGreatDoorFG4x
import Derived.Test.YtpfiejmhnkcjbaaGreatDoorFG3x
import Derived.Test.YtpfiejmhnkcjbaaGreatDoorFG10x
import Derived.Laws.Pointers
namespace Go.Proofs.YtpfiejmhnkcjbaaGreatDoor
open Go.RowKit Math
set_option linter.unusedVariables false
set_option linter.unusedSimpArgs false
/-- A reader in memory. -/
structure Kr (t : TypeId) (r : Nat) (W wr : World) (rc : List Value) : Prop where
  blk : Blk wr r t rc
  gr : W.grownBy wr (some r)
theorem Kr.trans {t : TypeId} {r : Nat} {W w1 w2 : World} {rc rc' : List Value} (h : Kr t r W w1 rc) (k : Kr t r w1 w2 rc') : Kr t r W w2 rc' := ⟨k.blk, h.gr.trans k.gr⟩
theorem Kr.then {t : TypeId} {r : Nat} {W w1 w2 : World} {rc : List Value} (h : Kr t r W w1 rc) (k : Below w1.heap.size w1 w2) : Kr t r W w2 rc :=
  ⟨h.blk.below k h.blk.lt, ⟨k.os.trans h.gr.os, k.tape.trans h.gr.tape, k.output.trans h.gr.output, Nat.le_trans h.gr.size k.size, fun x hx hne => (k.block x (Nat.lt_of_lt_of_le hx h.gr.size)).trans (h.gr.block x hx hne)⟩⟩
theorem lay_snoc {w : World} {q : Vt} {na : Option Addr} {nc : Nat} {ka : Option Addr} {kc : Nat} {Lq : List Nat} (hq : VlL w q na nc ka kc Lq) : ∀ (f : Fo) {cs : List Value} {L : List Nat}, Lay w f cs L → Lay w (f.snoc q) (cs ++ six q.1 na nc ka q.2.list.length kc) (L ++ Lq)
  | .nil, cs, L, hl => by
    obtain ⟨rfl, rfl⟩ := hl
    exact (lay_cons (q := q)).2 ⟨na, nc, ka, kc, [], Lq, [], by simp, by simp, hq, ⟨rfl, rfl⟩⟩
  | .cons h kk r, cs, L, hl => by
    obtain ⟨na1, nc1, ka1, kc1, cs', L1, L2, rfl, rfl, hv, h7⟩ := (lay_cons (q := (h, kk))).1 hl
    exact (lay_cons (q := (h, kk))).2 ⟨na1, nc1, ka1, kc1, _, L1, _, by rw [List.append_assoc], by rw [List.append_assoc], hv, lay_snoc hq r h7⟩
structure Od (W : World) (r g6 g8 B : Nat) : Prop where
  r : r < W.heap.size
  l6 : W.heap.size ≤ g6
  l8 : g6 < g8
  lB : g8 < B
structure NK (t : TypeId) (B g6 g8 r : Nat) (W : World) (k : Int) (wr : World) (rc : List Value) (ns : List ByteArray) (f : Fo) (vn vk : Value) (cs : List Value) (Lf : List Nat) : Prop where
  ro : Kr t r W wr rc
  b6 : Blk wr g6 41 zer
  b8 : Blk wr g8 41 [.int .i64 k, .int .i64 0, .int .i64 0, .string ⟨#[]⟩, vn, vk]
  nm : wr.ownsRow B 9 1 vn ns.length (ns.map Value.string)
  kd : wr.ownsRow B 41 6 vk f.list.length cs
  lay : Lay wr f cs Lf
  rng : ∀ x ∈ Lf, B ≤ x ∧ x < wr.heap.size ∧ vn.ownBlock ≠ some x ∧ vk.ownBlock ≠ some x
  nk : ∀ x, vn.ownBlock = some x → vk.ownBlock ≠ some x
  sz : B ≤ wr.heap.size
section
variable {t : TypeId} {B g6 g8 r : Nat} {W : World} {k : Int} {wr w' : World} {rc rc' : List Value} {ns : List ByteArray} {f : Fo} {vn vk : Value} {cs : List Value} {Lf : List Nat}
theorem NK.read (h : NK t B g6 g8 r W k wr rc ns f vn vk cs Lf) (o : Od W r g6 g8 B) (k' : Kr t r wr w' rc') : NK t B g6 g8 r W k w' rc' ns f vn vk cs Lf := by
  have o1 := o.r
  have o2 := o.l6
  have o3 := o.l8
  have o4 := o.lB
  refine ⟨h.ro.trans k', h.b6.kept k'.gr (by intro c; injection c with c; omega), h.b8.kept k'.gr (by intro c; injection c with c; omega), World.ownsRow.kept h.nm k'.gr (.inr fun c => ?_), World.ownsRow.kept h.kd k'.gr (.inr fun c => ?_), Lay.keep _ h.lay fun x hx => ?_, fun x hx => ?_, h.nk, Nat.le_trans h.sz k'.gr.size⟩
  · have := (World.ownsRow.lt h.nm _ c).1
    omega
  · have := (World.ownsRow.lt h.kd _ c).1
    omega
  · have := h.rng x hx
    exact k'.gr.block x this.2.1 (by intro c; injection c with c; omega)
  · have := h.rng x hx
    have := k'.gr.size
    exact ⟨by omega, by omega, (h.rng x hx).2.2⟩
theorem NK.below (h : NK t B g6 g8 r W k wr rc ns f vn vk cs Lf) (g : Below wr.heap.size wr w') : NK t B g6 g8 r W k w' rc ns f vn vk cs Lf := by
  have g' : wr.grownBy w' none := ⟨g.os, g.tape, g.output, g.size, fun x hx _ => g.block x hx⟩
  refine ⟨h.ro.then g, h.b6.below g h.b6.lt, h.b8.below g h.b8.lt, World.ownsRow.kept h.nm g' (by simpa using Classical.em _), World.ownsRow.kept h.kd g' (by simpa using Classical.em _), Lay.keep _ h.lay fun x hx => g.block x (h.rng x hx).2.1, fun x hx => ?_, h.nk, Nat.le_trans h.sz g.size⟩
  have := h.rng x hx
  have := g.size
  exact ⟨by omega, by omega, (h.rng x hx).2.2⟩
theorem kr_grown {w1 : World} {row : Option Nat} (h : Kr t r W wr rc) (g : wr.grownBy w1 row) (hr : ∀ x, row = some x → x ≠ r ∧ W.heap.size ≤ x) : Kr t r W w1 rc := by
  refine ⟨h.blk.kept g (fun c => (hr r c.symm).1 rfl), ⟨g.os.trans h.gr.os, g.tape.trans h.gr.tape, g.output.trans h.gr.output, Nat.le_trans h.gr.size g.size, fun x hx hne => (g.block x (Nat.lt_of_lt_of_le hx h.gr.size) ?_).trans (h.gr.block x hx hne)⟩⟩
  intro c
  have := (hr x c.symm).2
  omega
/-- A name more. -/
theorem NK.name {w1 w2 w3 : World} {vn' : Value} {s : ByteArray} (h : NK t B g6 g8 r W k wr rc ns f vn vk cs Lf) (o : Od W r g6 g8 B) (hb : Below wr.heap.size wr w1) (g : w1.grownBy w2 vn.ownBlock) (hn : w2.ownsRow B 9 1 vn' (ns.length + 1) (ns.map Value.string ++ [.string s])) (hat : vn'.ownBlock = vn.ownBlock ∨ vn'.ownBlock = some w1.heap.size)
    (hs : Blk w3 g8 41 [.int .i64 k, .int .i64 0, .int .i64 0, .string ⟨#[]⟩, vn', vk]) (g3 : w2.grownBy w3 (some g8)) : NK t B g6 g8 r W k w3 rc (ns ++ [s]) f vn' vk cs Lf := by
  have o1 := o.r
  have o2 := o.l6
  have o3 := o.l8
  have o4 := o.lB
  have h1 := h.below hb
  have hsz := h.ro.gr.size
  have hsz1 := hb.size
  have ln := fun x c => World.ownsRow.lt h1.nm x c
  have lk := fun x c => World.ownsRow.lt h1.kd x c
  have ro2 := kr_grown h1.ro g (fun x c => by have := ln x c; omega)
  have ro3 := kr_grown ro2 g3 (fun x c => by injection c with c; omega)
  have ln' := fun x c => World.ownsRow.lt hn x c
  refine ⟨ro3, (h1.b6.kept g fun c => ?_).kept g3 (by intro c; injection c with c; omega), hs, ?_, World.ownsRow.kept (World.ownsRow.kept h1.kd g ?_) g3 (.inr fun c => ?_), Lay.keep _ h1.lay fun x hx => ?_, fun x hx => ?_, fun x c => ?_, Nat.le_trans h1.sz (Nat.le_trans g.size g3.size)⟩
  · have := ln _ c.symm
    omega
  · rw [List.length_append, List.map_append]
    exact World.ownsRow.kept hn g3 (.inr fun c => by have := ln' _ c; omega)
  · cases hv : vk.ownBlock with
    | none => exact .inl rfl
    | some x => exact .inr fun c => h1.nk x c.symm hv
  · have := lk _ c
    omega
  · obtain ⟨a1, a2, a3, a4⟩ := h1.rng x hx
    rw [g3.block x (Nat.lt_of_lt_of_le a2 g.size) (by intro c; injection c with c; omega)]
    exact g.block x a2 (fun c => a3 c.symm)
  · obtain ⟨a1, a2, a3, a4⟩ := h1.rng x hx
    have := g.size
    have := g3.size
    refine ⟨a1, by omega, ?_, a4⟩
    rcases hat with c | c
    · rw [c]; exact a3
    · rw [c]; intro c; injection c with c; omega
  · rcases hat with c2 | c2
    · exact h1.nk x (by rw [← c2]; exact c)
    · intro c3
      rw [c2] at c
      injection c with c
      have := lk x c3
      omega
/-- A kid more. -/
theorem NK.kid {w1 w2 w3 : World} {vk' : Value} {q : Vt} {na : Option Addr} {nc : Nat} {ka : Option Addr} {kc : Nat} {Lq : List Nat} (h : NK t B g6 g8 r W k wr rc ns f vn vk cs Lf) (o : Od W r g6 g8 B) (hv : VlL wr q na nc ka kc Lq) (hr : ∀ x ∈ Lq, B ≤ x ∧ x < wr.heap.size ∧ vn.ownBlock ≠ some x ∧ vk.ownBlock ≠ some x)
    (hb : Below wr.heap.size wr w1) (g : w1.grownBy w2 vk.ownBlock) (hn : w2.ownsRow B 41 6 vk' (f.list.length + 1) (cs ++ six q.1 na nc ka q.2.list.length kc)) (hat : vk'.ownBlock = vk.ownBlock ∨ vk'.ownBlock = some w1.heap.size)
    (hs : Blk w3 g8 41 [.int .i64 k, .int .i64 0, .int .i64 0, .string ⟨#[]⟩, vn, vk']) (g3 : w2.grownBy w3 (some g8)) : NK t B g6 g8 r W k w3 rc ns (f.snoc q) vn vk' (cs ++ six q.1 na nc ka q.2.list.length kc) (Lf ++ Lq) := by
  have o1 := o.r
  have o2 := o.l6
  have o3 := o.l8
  have o4 := o.lB
  have h1 := h.below hb
  have hsz := h.ro.gr.size
  have hsz1 := hb.size
  have ln := fun x c => World.ownsRow.lt h1.nm x c
  have lk := fun x c => World.ownsRow.lt h1.kd x c
  have ro2 := kr_grown h1.ro g (fun x c => by have := lk x c; omega)
  have ro3 := kr_grown ro2 g3 (fun x c => by injection c with c; omega)
  have lk' := fun x c => World.ownsRow.lt hn x c
  have kp : ∀ x, B ≤ x → x < w1.heap.size → vk.ownBlock ≠ some x → w3.heap[x]? = w1.heap[x]? := fun x a1 a2 a4 => by
    rw [g3.block x (Nat.lt_of_lt_of_le a2 g.size) (by intro c; injection c with c; omega)]
    exact g.block x a2 (fun c => a4 c.symm)
  refine ⟨ro3, (h1.b6.kept g fun c => ?_).kept g3 (by intro c; injection c with c; omega), hs, World.ownsRow.kept (World.ownsRow.kept h1.nm g ?_) g3 (.inr fun c => ?_), ?_, lay_snoc (VlL.keep hv fun x hx => ?_) _ (Lay.keep _ h1.lay fun x hx => ?_), fun x hx => ?_, fun x c => ?_, Nat.le_trans h1.sz (Nat.le_trans g.size g3.size)⟩
  · have := lk _ c.symm
    omega
  · cases hv : vn.ownBlock with
    | none => exact .inl rfl
    | some x => exact .inr fun c => h1.nk x hv c.symm
  · have := ln _ c
    omega
  · rw [snoc_list, List.length_append]
    exact World.ownsRow.kept hn g3 (.inr fun c => by have := lk' _ c; omega)
  · obtain ⟨a1, a2, a3, a4⟩ := hr x hx
    rw [kp x a1 (by omega) a4]
    exact hb.block x a2
  · obtain ⟨a1, a2, a3, a4⟩ := h1.rng x hx
    exact kp x a1 a2 a4
  · have g1 := g.size
    have g2 := g3.size
    have key : B ≤ x ∧ x < w1.heap.size ∧ vn.ownBlock ≠ some x ∧ vk.ownBlock ≠ some x := by
      rcases List.mem_append.1 hx with hx | hx
      · exact h1.rng x hx
      · obtain ⟨a1, a2, a3, a4⟩ := hr x hx
        exact ⟨a1, by omega, a3, a4⟩
    refine ⟨key.1, by omega, key.2.2.1, ?_⟩
    rcases hat with c | c
    · rw [c]; exact key.2.2.2
    · rw [c]; intro c; injection c with c; have := key.2.1; omega
  · intro c3
    rcases hat with c2 | c2
    · exact h1.nk x c (by rw [← c2]; exact c3)
    · rw [c2] at c3
      injection c3 with c3
      have := ln x c
      omega
/-- What is answered in the end. -/
theorem NK.val (h : NK t B g6 g8 r W k wr rc ns f vn vk cs Lf) : ∃ na nc ka kc Lp, vn = .slice na ns.length nc ∧ vk = .slice ka f.list.length kc ∧ VlL wr (nst k (f, ns)) na nc ka kc Lp ∧ ∀ x ∈ Lp, B ≤ x ∧ x < wr.heap.size := by
  obtain ⟨na, nc, Ln, e1, n1, n2, n3, _⟩ := nml_of h.nm
  have hk := h.kd
  have hk' := h.kd
  rcases hk with ⟨_, ⟨e2, h0⟩ | ⟨g, cap, cur, e2, hg, hh, hle, hm, _⟩⟩
  · have hf : f = .nil := by
      cases f with
      | nil => rfl
      | cons a b c => simp [Fo.list] at h0
    subst hf
    refine ⟨na, nc, none, 0, Ln, e1, by rw [e2]; rfl, ⟨Ln, [], by simp, n1, n2, ⟨Nat.le_refl _, fun _ => rfl, by decide⟩, .inl ⟨rfl, rfl⟩⟩, fun x hx => ?_⟩
    exact World.ownsRow.lt h.nm x (n3 x hx)
  · refine ⟨na, nc, some ⟨g, 0, none⟩, cap, Ln ++ (g :: Lf), e1, e2, ⟨Ln, g :: Lf, rfl, n1, n2, ⟨hle, fun c => (by cases c), hm⟩, .inr ⟨g, 0, cs, Lf, rfl, rfl, fun i => ?_, fun j u hj => ?_, h.lay⟩⟩, fun x hx => ?_⟩
    · rw [e2] at hk'
      exact World.ownsRow.frozenAt hk' i
    · have := World.ownsRow.cells hk' (g := g) (by rw [e2]; rfl) j u hj
      rw [Addr.add_lit] at this
      exact this
    · rcases List.mem_append.1 hx with hx | hx
      · exact World.ownsRow.lt h.nm x (n3 x hx)
      · rcases List.mem_cons.1 hx with rfl | hx
        · exact World.ownsRow.lt h.kd x (by rw [e2]; rfl)
        · have := h.rng x hx
          exact ⟨this.1, this.2.1⟩
end
theorem sNm : (Tryz.prog.info? 38).map (·.size) = some 1 := by kernel_rfl
theorem sKd : (Tryz.prog.info? 39).map (·.size) = some 1 := by kernel_rfl
end Go.Proofs.YtpfiejmhnkcjbaaGreatDoor
namespace Go.Proofs.YtpfiejmhnkcjbaaGreatDoor
open Go.RowKit Math
set_option linter.unusedVariables false
set_option linter.unusedSimpArgs false
/-- A builder in a block of its own, and its bytes. -/
structure Bs (b B : Nat) (W : World) (v : Value) (l : List Nat) : Prop where
  blk : Blk W b 86 [.pointer none, v] ∨ Blk W b 86 [.pointer (some ⟨b, 0, none⟩), v]
  own : Own W B v l
  ne : v.ownBlock ≠ some b
  le : B ≤ b
/-- What a write leaves: all blocks but the builder's and its row's. -/
structure Bw (b B : Nat) (W w' : World) (v v' : Value) (l' : List Nat) : Prop where
  bs : Bs b B w' v' l'
  os : w'.os = W.os
  tape : w'.tape = W.tape
  output : w'.output = W.output
  size : W.heap.size ≤ w'.heap.size
  keep : ∀ x, x < W.heap.size → x ≠ b → v.ownBlock ≠ some x → w'.heap[x]? = W.heap[x]?
  ob : ∀ x, v'.ownBlock = some x → v.ownBlock = some x ∨ W.heap.size ≤ x
theorem Bs.lt {b B : Nat} {W : World} {v : Value} {l : List Nat} (h : Bs b B W v l) : b < W.heap.size := by
  rcases h.blk with h | h <;> exact h.lt
theorem Bw.refl {b B : Nat} {W : World} {v : Value} {l : List Nat} (h : Bs b B W v l) : Bw b B W W v v l := ⟨h, rfl, rfl, rfl, Nat.le_refl _, fun _ _ _ _ => rfl, fun _ h => .inl h⟩
theorem Bw.trans {b B : Nat} {W w1 w2 : World} {v v1 v2 : Value} {l1 l2 : List Nat} (h : Bw b B W w1 v v1 l1) (k : Bw b B w1 w2 v1 v2 l2) : Bw b B W w2 v v2 l2 := by
  have hs := h.size
  refine ⟨k.bs, k.os.trans h.os, k.tape.trans h.tape, k.output.trans h.output, Nat.le_trans hs k.size, fun x hx h1 h2 => ?_, fun x hx => ?_⟩
  · rw [k.keep x (by omega) h1 (fun e => ?_), h.keep x hx h1 h2]
    rcases h.ob x e with h3 | h3
    · exact h2 h3
    · omega
  · rcases k.ob x hx with h3 | h3
    · exact h.ob x h3
    · exact .inr (by omega)
/-- New blocks behind a step. -/
theorem Bs.below {b B : Nat} {W w' : World} {v : Value} {l : List Nat} (h : Bs b B W v l) (g : Below W.heap.size W w') : Bs b B w' v l :=
  ⟨h.blk.imp (fun k => k.below g k.lt) (fun k => k.below g k.lt), h.own.below g, h.ne, h.le⟩
theorem Bw.more {b B : Nat} {W w1 w2 : World} {v v1 : Value} {l1 : List Nat} (h : Bw b B W w1 v v1 l1) (g : Below w1.heap.size w1 w2) : Bw b B W w2 v v1 l1 :=
  ⟨h.bs.below g, g.os.trans h.os, g.tape.trans h.tape, g.output.trans h.output, Nat.le_trans h.size g.size, fun x hx h1 h2 => (g.block x (Nat.lt_of_lt_of_le hx h.size)).trans (h.keep x hx h1 h2), h.ob⟩
theorem Bw.after {b B : Nat} {W w1 w2 : World} {v v2 : Value} {l2 : List Nat} (g : Below W.heap.size W w1) (k : Bw b B w1 w2 v v2 l2) : Bw b B W w2 v v2 l2 :=
  ⟨k.bs, k.os.trans g.os, k.tape.trans g.tape, k.output.trans g.output, Nat.le_trans g.size k.size, fun x hx h1 h2 => (k.keep x (Nat.lt_of_lt_of_le hx g.size) h1 h2).trans (g.block x hx), fun x hx => (k.ob x hx).imp id (fun h => Nat.le_trans g.size h)⟩
theorem Bw.down {b B C : Nat} {w0 W w' : World} {v v' : Value} {l l' : List Nat} (k : Bw b B W w' v v' l') (h : Bs b B W v l) (hb : Below C w0 W) (hC : C ≤ B) : Below C w0 w' := by
  have h1 := h.le
  have h2 := h.lt
  refine ⟨k.os.trans hb.os, k.tape.trans hb.tape, k.output.trans hb.output, Nat.le_trans hb.size k.size, fun x hx => ?_⟩
  rw [k.keep x (by omega) (by omega) (fun e => ?_)]
  · exact hb.block x hx
  · have := (World.ownsRow.lt h.own x e).1
    omega
/-- A block that is neither of them. -/
theorem Bw.blk {b B : Nat} {W w' : World} {v v' : Value} {l' : List Nat} (k : Bw b B W w' v v' l') {x : Nat} {t : TypeId} {vs : List Value} (h : Blk W x t vs) (h1 : x ≠ b) (h2 : v.ownBlock ≠ some x) : Blk w' x t vs := by
  unfold Blk at h ⊢
  rw [k.keep x (Array.getElem?_eq_some_iff.1 h).1 h1 h2]
  exact h
theorem Blk.shp {W : World} {b : Nat} {t : TypeId} {vs : List Value} (h : Blk W b t vs) : W.shape? b = some (t, vs.length) := by
  unfold Blk at h
  simp [World.shape?, h]
theorem copy_any {b B : Nat} {W : World} {v : Value} {l : List Nat} (h : Bs b B W v l) :
    Calls Tryz.prog 92 #[.pointer (some ⟨b, 0, none⟩)] W fun e w' => e = .returned (.tuple #[]) ∧ Hid (Bw b B W w' v v l ∧ Blk w' b 86 [.pointer (some ⟨b, 0, none⟩), v]) := by
  rcases h.blk with hb | hb
  · have K : Calls Tryz.prog 92 _ _ _ := Any.Builder_copyCheck_fresh (ρ := Tryz.lays159_ren) { Tryz.lays159 with } Tryz.Builder_Extra_159.toX72 b W (hb.cell 0) hb.shp (hb.frozen 0)
    refine K.mono ?_
    rintro e w' ⟨rfl, rfl⟩
    have h2 : Blk (W.setCell ⟨b, 0, none⟩ (.pointer (some ⟨b, 0, none⟩))) b 86 [.pointer (some ⟨b, 0, none⟩), v] := hb.set 0 _
    have g := grown_setCell W ⟨b, 0, none⟩ (.pointer (some ⟨b, 0, none⟩))
    refine ⟨rfl, ⟨⟨.inr h2, World.ownsRow.kept h.own g (.inr fun c => h.ne c), h.ne, h.le⟩, g.os, g.tape, g.output, g.size, fun x hx h1 h3 => g.block x hx (fun c => h1 (Option.some.inj c)), fun x hx => .inl hx⟩, h2⟩
  · have K : Calls Tryz.prog 92 _ _ _ := Any.Builder_copyCheck_used (ρ := Tryz.lays159_ren) { Tryz.lays159 with } Tryz.Builder_Extra_159.toX72 b W (hb.cell 0)
    refine K.mono ?_
    rintro e w' ⟨rfl, rfl⟩
    exact ⟨rfl, Bw.refl h, hb⟩
theorem s52 : (Tryz.prog.info? 34).map (·.size) = some 1 := by kernel_rfl
/-- Behind an append and the store of what it answers. -/
theorem Bw.app {b B : Nat} {W w1 w2 w3 : World} {v v' : Value} {l l' : List Nat} (h : Bw b B W w1 v v l) (hb : Blk w1 b 86 [.pointer (some ⟨b, 0, none⟩), v]) (w1' : World) (g1 : Below w1.heap.size w1 w1') (A : Ap B w1' w2 v v' l')
    (hs : Blk w3 b 86 [.pointer (some ⟨b, 0, none⟩), v']) (g3 : w2.grownBy w3 (some b)) : Bw b B W w3 v v' l' := by
  have hlt := hb.lt
  have z1 := g1.size
  have z2 := A.gr.size
  have z3 := g3.size
  have hne : v'.ownBlock ≠ some b := fun e => by
    rcases A.ob b e with c | c
    · exact h.bs.ne c
    · omega
  have k : Bw b B w1 w3 v v' l' := by
    refine ⟨⟨.inr hs, World.ownsRow.kept A.own g3 (.inr fun c => hne c), hne, h.bs.le⟩, ?_, ?_, ?_, by omega, fun x hx h1 h2 => ?_, fun x hx => ?_⟩
    · rw [g3.os, A.gr.os, g1.os]
    · rw [g3.tape, A.gr.tape, g1.tape]
    · rw [g3.output, A.gr.output, g1.output]
    · rw [g3.block x (by omega) (fun c => h1 (Option.some.inj c)), A.gr.block x (by omega) (fun c => h2 c.symm), g1.block x hx]
    · rcases A.ob x hx with c | c
      · exact .inl c
      · exact .inr (by omega)
  exact h.trans k
set_option maxRecDepth 8000 in
set_option maxHeartbeats 1000000 in
theorem wrb9 (c : Nat) {b B : Nat} {W : World} {v : Value} {l : List Nat} (h : Bs b B W v l) (hl : l.length ≤ 900000000) :
    Calls Tryz.prog 65 #[.pointer (some ⟨b, 0, none⟩), .int .u8 (c : Int)] W fun e w' => ∃ v', e = .returned .nilIface ∧ Hid (Bw b B W w' v v' (l ++ [c])) := by
  have K := copy_any h
  have hlt := h.lt
  have hle := h.le
  clear h
  go_enter Tryz.func65, Tryz.ntmps65
  go_wp2_with fail
  refine K.mono ?_
  rintro e w1 ⟨rfl, H⟩
  clear K
  have c1 : w1.cell? ⟨b, 1, none⟩ = some v := H.out.2.cell 1
  have hs1 : B ≤ w1.heap.size := by have := H.out.1.size; omega
  go_wp2_with (at_builtin; go_must (refine ap_bytes rfl (.tmp 11) (.tmp 13) rfl B v l rfl (H.out.1.bs.own.alloc _) _ _ _ [c] rfl rfl (byt_lit w1 [c]) (by simp) (by simp; omega) (by simp; omega) ?_))
  intro v' w2 A
  have hb2 : Blk w2 b 86 [.pointer (some ⟨b, 0, none⟩), v] := A.blk (H.out.2.alloc _) H.out.1.bs.ne
  have HA : Hid (Ap B (w1.alloc (Obj.cells #[.int .u8 (c : Int)] 5)) w2 v v' (l ++ [c])) := A
  have HV : Hid (v'.cells = #[v'] ∧ v'.oneCell' = true) := by
    obtain ⟨aa, cc, hv', _⟩ := A.own.byt
    rw [hv']
    exact ⟨rfl, rfl⟩
  clear A c1
  go_wp2_with (refine st_one rfl 34 (.tmp 16) (.tmp 14) rfl b 1 86 _ v' rfl rfl HV.out.1 HV.out.2 (by simp) hb2 s52 ?_)
  intro w3 b3 g3
  have HF : Hid (Bw b B W w3 v v' (l ++ [c])) := Bw.app H.out.1 H.out.2 _ ((Below.refl _ _).alloc (Nat.le_refl _) _) HA.out b3 g3
  clear b3 g3 HA H hb2
  go_wp2
  go_ret
  exact ⟨v', rfl, HF.out⟩
set_option maxRecDepth 8000 in
set_option maxHeartbeats 1000000 in
theorem wrs9 (s : ByteArray) {b B : Nat} {W : World} {v : Value} {l : List Nat} (h : Bs b B W v l) (hl : l.length + s.size ≤ 900000000) :
    Calls Tryz.prog 64 #[.pointer (some ⟨b, 0, none⟩), .string s] W fun e w' => ∃ v', e = .returned (.tuple #[.int .i64 (s.size : Int), .nilIface]) ∧ Hid (Bw b B W w' v v' (l ++ bts s)) := by
  have K := copy_any h
  have hlt := h.lt
  have hle := h.le
  clear h
  go_enter Tryz.func64, Tryz.ntmps64
  go_wp2_with fail
  refine K.mono ?_
  rintro e w1 ⟨rfl, H⟩
  clear K
  have c1 : w1.cell? ⟨b, 1, none⟩ = some v := H.out.2.cell 1
  have hs1 : B ≤ w1.heap.size := by have := H.out.1.size; omega
  go_wp2_with (at_builtin; go_must (refine ap_str rfl (.tmp 12) (.tmp 13) rfl B v l rfl H.out.1.bs.own s rfl (by omega) (by omega) ?_))
  intro v' w2 A
  have hb2 : Blk w2 b 86 [.pointer (some ⟨b, 0, none⟩), v] := A.blk H.out.2 H.out.1.bs.ne
  have HA : Hid (Ap B w1 w2 v v' (l ++ bts s)) := A
  have HV : Hid (v'.cells = #[v'] ∧ v'.oneCell' = true) := by
    obtain ⟨aa, cc, hv', _⟩ := A.own.byt
    rw [hv']
    exact ⟨rfl, rfl⟩
  clear A c1
  go_wp2_with (refine st_one rfl 34 (.tmp 16) (.tmp 14) rfl b 1 86 _ v' rfl rfl HV.out.1 HV.out.2 (by simp) hb2 s52 ?_)
  intro w3 b3 g3
  have HF : Hid (Bw b B W w3 v v' (l ++ bts s)) := Bw.app H.out.1 H.out.2 _ (Below.refl _ _) HA.out b3 g3
  clear b3 g3 HA H hb2
  go_wp2
  go_ret2
  exact ⟨v', rfl, HF.out⟩
theorem vals_cells {l : List Nat} (h : Oct l) : vals l = Lib.byteCells (l.map UInt8.ofNat) := by
  unfold vals Lib.byteCells
  rw [List.map_map]
  apply List.map_congr_left
  intro x hx
  have := h x hx
  simp only [Function.comp]
  rw [show (UInt8.ofNat x).toNat = x by rw [UInt8.toNat_ofNat']; omega]
theorem bstr9 {b B : Nat} {W : World} {v : Value} {l : List Nat} (h : Bs b B W v l) (ho : Oct l) :
    Calls Tryz.prog 66 #[.pointer (some ⟨b, 0, none⟩)] W fun e w' => e = .returned (.string (ofB l)) ∧ Below B W w' := by
  have hw : W.ownsRow B 5 1 v (Lib.byteCells (l.map UInt8.ofNat)).length (Lib.byteCells (l.map UInt8.ofNat)) := by
    have := h.own
    unfold Own at this
    rw [vals_cells ho] at this
    rw [Lib.byteCells_length, List.length_map]
    exact this
  have hi : Lib.IsBuilder 86 5 B b (Lib.byteCells (l.map UInt8.ofNat)) W := by
    rcases h.blk with hb | hb
    · exact .inl ⟨h.le, v, hb, hw, h.ne⟩
    · exact .inr ⟨h.le, v, hb, hw, h.ne⟩
  have hlt := h.lt
  have hle := h.le
  have K : Calls Tryz.prog 66 _ _ _ := Any.Builder_String_any Tryz.lays169 Tryz.Builder_Extra_169 B b (l.map UInt8.ofNat) W hi (by omega)
  exact K
end Go.Proofs.YtpfiejmhnkcjbaaGreatDoor
