/-
  What lies in memory while a List or a Struct is read, whatever the reader. · text's reader: skip, must, next, digit, pair.
-/
import Derived.Test.YtmlfhplhiedfjaaGreatDoorCG25x
import Derived.Test.YtmlfhplhiedfjaaGreatDoorCWe
import Derived.Test.YtmlfhplhiedfjaaGreatDoorCG27x
import Derived.Test.YtmlfhplhiedfjaaGreatDoorCBu
import Derived.Test.YtmlfhplhiedfjaaGreatDoorCG16x
namespace Go.Proofs.YtmlfhplhiedfjaaGreatDoor
open Go.RowKit Math
set_option linter.unusedVariables false
set_option linter.unusedSimpArgs false
/-- A reader in memory. -/
structure Kr (t : TypeId) (r : Nat) (W wr : World) (rc : List Value) : Prop where
  blk : Blk wr r t rc
  gr : W.grownBy wr (some r)
theorem Kr.trans {t : TypeId} {r : Nat} {W w1 w2 : World} {rc rc' : List Value} (h : Kr t r W w1 rc) (k : Kr t r w1 w2 rc') : Kr t r W w2 rc' := ⟨k.blk, h.gr.trans k.gr⟩
theorem Kr.then {t : TypeId} {r : Nat} {W w1 w2 : World} {rc : List Value} (h : Kr t r W w1 rc) (k : Below w1.heap.size w1 w2) : Kr t r W w2 rc :=
  ⟨h.blk.below k h.blk.lt, ⟨k.os.trans h.gr.os, k.tape.trans h.gr.tape, k.output.trans h.gr.output, Nat.le_trans h.gr.size k.size, fun x hx hne => (k.block x (Nat.lt_of_lt_of_le hx h.gr.size)).trans (h.gr.block x hx hne)⟩⟩
theorem lay_snoc {w : World} {q : Vt} {na : Option Addr} {nc : Nat} {ka : Option Addr} {kc : Nat} {Lq : List Nat} (hq : VlL w q na nc ka kc Lq) : ∀ (f : Fo) {cs : List Value} {L : List Nat}, Lay w f cs L → Lay w (f.snoc q) (cs ++ six q.1 na nc ka q.2.list.length kc) (L ++ Lq)
  | .nil, cs, L, hl => by
    obtain ⟨rfl, rfl⟩ := hl
    exact (lay_cons (q := q)).2 ⟨na, nc, ka, kc, [], Lq, [], by simp, by simp, hq, ⟨rfl, rfl⟩⟩
  | .cons h kk r, cs, L, hl => by
    obtain ⟨na1, nc1, ka1, kc1, cs', L1, L2, rfl, rfl, hv, h7⟩ := (lay_cons (q := (h, kk))).1 hl
    exact (lay_cons (q := (h, kk))).2 ⟨na1, nc1, ka1, kc1, _, L1, _, by rw [List.append_assoc], by rw [List.append_assoc], hv, lay_snoc hq r h7⟩
structure Od (W : World) (r g6 g8 B : Nat) : Prop where
  r : r < W.heap.size
  l6 : W.heap.size ≤ g6
  l8 : g6 < g8
  lB : g8 < B
structure NK (t : TypeId) (B g6 g8 r : Nat) (W : World) (k : Int) (wr : World) (rc : List Value) (ns : List ByteArray) (f : Fo) (vn vk : Value) (cs : List Value) (Lf : List Nat) : Prop where
  ro : Kr t r W wr rc
  b6 : Blk wr g6 38 zer
  b8 : Blk wr g8 38 [.int .i64 k, .int .i64 0, .int .i64 0, .string ⟨#[]⟩, vn, vk]
  nm : wr.ownsRow B 9 1 vn ns.length (ns.map Value.string)
  kd : wr.ownsRow B 38 6 vk f.list.length cs
  lay : Lay wr f cs Lf
  rng : ∀ x ∈ Lf, B ≤ x ∧ x < wr.heap.size ∧ vn.ownBlock ≠ some x ∧ vk.ownBlock ≠ some x
  nk : ∀ x, vn.ownBlock = some x → vk.ownBlock ≠ some x
  sz : B ≤ wr.heap.size
section
variable {t : TypeId} {B g6 g8 r : Nat} {W : World} {k : Int} {wr w' : World} {rc rc' : List Value} {ns : List ByteArray} {f : Fo} {vn vk : Value} {cs : List Value} {Lf : List Nat}
theorem NK.read (h : NK t B g6 g8 r W k wr rc ns f vn vk cs Lf) (o : Od W r g6 g8 B) (k' : Kr t r wr w' rc') : NK t B g6 g8 r W k w' rc' ns f vn vk cs Lf := by
  have o1 := o.r
  have o2 := o.l6
  have o3 := o.l8
  have o4 := o.lB
  refine ⟨h.ro.trans k', h.b6.kept k'.gr (by intro c; injection c with c; omega), h.b8.kept k'.gr (by intro c; injection c with c; omega), World.ownsRow.kept h.nm k'.gr (.inr fun c => ?_), World.ownsRow.kept h.kd k'.gr (.inr fun c => ?_), Lay.keep _ h.lay fun x hx => ?_, fun x hx => ?_, h.nk, Nat.le_trans h.sz k'.gr.size⟩
  · have := (World.ownsRow.lt h.nm _ c).1
    omega
  · have := (World.ownsRow.lt h.kd _ c).1
    omega
  · have := h.rng x hx
    exact k'.gr.block x this.2.1 (by intro c; injection c with c; omega)
  · have := h.rng x hx
    have := k'.gr.size
    exact ⟨by omega, by omega, (h.rng x hx).2.2⟩
theorem NK.below (h : NK t B g6 g8 r W k wr rc ns f vn vk cs Lf) (g : Below wr.heap.size wr w') : NK t B g6 g8 r W k w' rc ns f vn vk cs Lf := by
  have g' : wr.grownBy w' none := ⟨g.os, g.tape, g.output, g.size, fun x hx _ => g.block x hx⟩
  refine ⟨h.ro.then g, h.b6.below g h.b6.lt, h.b8.below g h.b8.lt, World.ownsRow.kept h.nm g' (by simpa using Classical.em _), World.ownsRow.kept h.kd g' (by simpa using Classical.em _), Lay.keep _ h.lay fun x hx => g.block x (h.rng x hx).2.1, fun x hx => ?_, h.nk, Nat.le_trans h.sz g.size⟩
  have := h.rng x hx
  have := g.size
  exact ⟨by omega, by omega, (h.rng x hx).2.2⟩
theorem kr_grown {w1 : World} {row : Option Nat} (h : Kr t r W wr rc) (g : wr.grownBy w1 row) (hr : ∀ x, row = some x → x ≠ r ∧ W.heap.size ≤ x) : Kr t r W w1 rc := by
  refine ⟨h.blk.kept g (fun c => (hr r c.symm).1 rfl), ⟨g.os.trans h.gr.os, g.tape.trans h.gr.tape, g.output.trans h.gr.output, Nat.le_trans h.gr.size g.size, fun x hx hne => (g.block x (Nat.lt_of_lt_of_le hx h.gr.size) ?_).trans (h.gr.block x hx hne)⟩⟩
  intro c
  have := (hr x c.symm).2
  omega
/-- A name more. -/
theorem NK.name {w1 w2 w3 : World} {vn' : Value} {s : ByteArray} (h : NK t B g6 g8 r W k wr rc ns f vn vk cs Lf) (o : Od W r g6 g8 B) (hb : Below wr.heap.size wr w1) (g : w1.grownBy w2 vn.ownBlock) (hn : w2.ownsRow B 9 1 vn' (ns.length + 1) (ns.map Value.string ++ [.string s])) (hat : vn'.ownBlock = vn.ownBlock ∨ vn'.ownBlock = some w1.heap.size)
    (hs : Blk w3 g8 38 [.int .i64 k, .int .i64 0, .int .i64 0, .string ⟨#[]⟩, vn', vk]) (g3 : w2.grownBy w3 (some g8)) : NK t B g6 g8 r W k w3 rc (ns ++ [s]) f vn' vk cs Lf := by
  have o1 := o.r
  have o2 := o.l6
  have o3 := o.l8
  have o4 := o.lB
  have h1 := h.below hb
  have hsz := h.ro.gr.size
  have hsz1 := hb.size
  have ln := fun x c => World.ownsRow.lt h1.nm x c
  have lk := fun x c => World.ownsRow.lt h1.kd x c
  have ro2 := kr_grown h1.ro g (fun x c => by have := ln x c; omega)
  have ro3 := kr_grown ro2 g3 (fun x c => by injection c with c; omega)
  have ln' := fun x c => World.ownsRow.lt hn x c
  refine ⟨ro3, (h1.b6.kept g fun c => ?_).kept g3 (by intro c; injection c with c; omega), hs, ?_, World.ownsRow.kept (World.ownsRow.kept h1.kd g ?_) g3 (.inr fun c => ?_), Lay.keep _ h1.lay fun x hx => ?_, fun x hx => ?_, fun x c => ?_, Nat.le_trans h1.sz (Nat.le_trans g.size g3.size)⟩
  · have := ln _ c.symm
    omega
  · rw [List.length_append, List.map_append]
    exact World.ownsRow.kept hn g3 (.inr fun c => by have := ln' _ c; omega)
  · cases hv : vk.ownBlock with
    | none => exact .inl rfl
    | some x => exact .inr fun c => h1.nk x c.symm hv
  · have := lk _ c
    omega
  · obtain ⟨a1, a2, a3, a4⟩ := h1.rng x hx
    rw [g3.block x (Nat.lt_of_lt_of_le a2 g.size) (by intro c; injection c with c; omega)]
    exact g.block x a2 (fun c => a3 c.symm)
  · obtain ⟨a1, a2, a3, a4⟩ := h1.rng x hx
    have := g.size
    have := g3.size
    refine ⟨a1, by omega, ?_, a4⟩
    rcases hat with c | c
    · rw [c]; exact a3
    · rw [c]; intro c; injection c with c; omega
  · rcases hat with c2 | c2
    · exact h1.nk x (by rw [← c2]; exact c)
    · intro c3
      rw [c2] at c
      injection c with c
      have := lk x c3
      omega
/-- A kid more. -/
theorem NK.kid {w1 w2 w3 : World} {vk' : Value} {q : Vt} {na : Option Addr} {nc : Nat} {ka : Option Addr} {kc : Nat} {Lq : List Nat} (h : NK t B g6 g8 r W k wr rc ns f vn vk cs Lf) (o : Od W r g6 g8 B) (hv : VlL wr q na nc ka kc Lq) (hr : ∀ x ∈ Lq, B ≤ x ∧ x < wr.heap.size ∧ vn.ownBlock ≠ some x ∧ vk.ownBlock ≠ some x)
    (hb : Below wr.heap.size wr w1) (g : w1.grownBy w2 vk.ownBlock) (hn : w2.ownsRow B 38 6 vk' (f.list.length + 1) (cs ++ six q.1 na nc ka q.2.list.length kc)) (hat : vk'.ownBlock = vk.ownBlock ∨ vk'.ownBlock = some w1.heap.size)
    (hs : Blk w3 g8 38 [.int .i64 k, .int .i64 0, .int .i64 0, .string ⟨#[]⟩, vn, vk']) (g3 : w2.grownBy w3 (some g8)) : NK t B g6 g8 r W k w3 rc ns (f.snoc q) vn vk' (cs ++ six q.1 na nc ka q.2.list.length kc) (Lf ++ Lq) := by
  have o1 := o.r
  have o2 := o.l6
  have o3 := o.l8
  have o4 := o.lB
  have h1 := h.below hb
  have hsz := h.ro.gr.size
  have hsz1 := hb.size
  have ln := fun x c => World.ownsRow.lt h1.nm x c
  have lk := fun x c => World.ownsRow.lt h1.kd x c
  have ro2 := kr_grown h1.ro g (fun x c => by have := lk x c; omega)
  have ro3 := kr_grown ro2 g3 (fun x c => by injection c with c; omega)
  have lk' := fun x c => World.ownsRow.lt hn x c
  have kp : ∀ x, B ≤ x → x < w1.heap.size → vk.ownBlock ≠ some x → w3.heap[x]? = w1.heap[x]? := fun x a1 a2 a4 => by
    rw [g3.block x (Nat.lt_of_lt_of_le a2 g.size) (by intro c; injection c with c; omega)]
    exact g.block x a2 (fun c => a4 c.symm)
  refine ⟨ro3, (h1.b6.kept g fun c => ?_).kept g3 (by intro c; injection c with c; omega), hs, World.ownsRow.kept (World.ownsRow.kept h1.nm g ?_) g3 (.inr fun c => ?_), ?_, lay_snoc (VlL.keep hv fun x hx => ?_) _ (Lay.keep _ h1.lay fun x hx => ?_), fun x hx => ?_, fun x c => ?_, Nat.le_trans h1.sz (Nat.le_trans g.size g3.size)⟩
  · have := lk _ c.symm
    omega
  · cases hv : vn.ownBlock with
    | none => exact .inl rfl
    | some x => exact .inr fun c => h1.nk x hv c.symm
  · have := ln _ c
    omega
  · rw [snoc_list, List.length_append]
    exact World.ownsRow.kept hn g3 (.inr fun c => by have := lk' _ c; omega)
  · obtain ⟨a1, a2, a3, a4⟩ := hr x hx
    rw [kp x a1 (by omega) a4]
    exact hb.block x a2
  · obtain ⟨a1, a2, a3, a4⟩ := h1.rng x hx
    exact kp x a1 a2 a4
  · have g1 := g.size
    have g2 := g3.size
    have key : B ≤ x ∧ x < w1.heap.size ∧ vn.ownBlock ≠ some x ∧ vk.ownBlock ≠ some x := by
      rcases List.mem_append.1 hx with hx | hx
      · exact h1.rng x hx
      · obtain ⟨a1, a2, a3, a4⟩ := hr x hx
        exact ⟨a1, by omega, a3, a4⟩
    refine ⟨key.1, by omega, key.2.2.1, ?_⟩
    rcases hat with c | c
    · rw [c]; exact key.2.2.2
    · rw [c]; intro c; injection c with c; have := key.2.1; omega
  · intro c3
    rcases hat with c2 | c2
    · exact h1.nk x c (by rw [← c2]; exact c3)
    · rw [c2] at c3
      injection c3 with c3
      have := ln x c
      omega
/-- What is answered in the end. -/
theorem NK.val (h : NK t B g6 g8 r W k wr rc ns f vn vk cs Lf) : ∃ na nc ka kc Lp, vn = .slice na ns.length nc ∧ vk = .slice ka f.list.length kc ∧ VlL wr (nst k (f, ns)) na nc ka kc Lp ∧ ∀ x ∈ Lp, B ≤ x ∧ x < wr.heap.size := by
  obtain ⟨na, nc, Ln, e1, n1, n2, n3, _⟩ := nml_of h.nm
  have hk := h.kd
  have hk' := h.kd
  rcases hk with ⟨_, ⟨e2, h0⟩ | ⟨g, cap, cur, e2, hg, hh, hle, hm, _⟩⟩
  · have hf : f = .nil := by
      cases f with
      | nil => rfl
      | cons a b c => simp [Fo.list] at h0
    subst hf
    refine ⟨na, nc, none, 0, Ln, e1, by rw [e2]; rfl, ⟨Ln, [], by simp, n1, n2, ⟨Nat.le_refl _, fun _ => rfl, by decide⟩, .inl ⟨rfl, rfl⟩⟩, fun x hx => ?_⟩
    exact World.ownsRow.lt h.nm x (n3 x hx)
  · refine ⟨na, nc, some ⟨g, 0, none⟩, cap, Ln ++ (g :: Lf), e1, e2, ⟨Ln, g :: Lf, rfl, n1, n2, ⟨hle, fun c => (by cases c), hm⟩, .inr ⟨g, 0, cs, Lf, rfl, rfl, fun i => ?_, fun j u hj => ?_, h.lay⟩⟩, fun x hx => ?_⟩
    · rw [e2] at hk'
      exact World.ownsRow.frozenAt hk' i
    · have := World.ownsRow.cells hk' (g := g) (by rw [e2]; rfl) j u hj
      rw [Addr.add_lit] at this
      exact this
    · rcases List.mem_append.1 hx with hx | hx
      · exact World.ownsRow.lt h.nm x (n3 x hx)
      · rcases List.mem_cons.1 hx with rfl | hx
        · exact World.ownsRow.lt h.kd x (by rw [e2]; rfl)
        · have := h.rng x hx
          exact ⟨this.1, this.2.1⟩
end
theorem sNm : (Tryz.prog.info? 36).map (·.size) = some 1 := by kernel_rfl
theorem sKd : (Tryz.prog.info? 22).map (·.size) = some 1 := by kernel_rfl
end Go.Proofs.YtmlfhplhiedfjaaGreatDoor
namespace Go.Proofs.YtmlfhplhiedfjaaGreatDoor
open Go.RowKit Math
set_option linter.unusedVariables false
set_option linter.unusedSimpArgs false
theorem sz9 : (Tryz.prog.info? 9).map (·.size) = some 1 := by kernel_rfl
theorem sz4 : (Tryz.prog.info? 4).map (·.size) = some 1 := by kernel_rfl
theorem map_inj9 {l m : List UInt8} (h : l.map UInt8.toNat = m.map UInt8.toNat) : l = m := by
  exact (List.map_inj_right (fun a b h => UInt8.toNat_inj.1 h)).1 h
theorem cutp9 (s mark : ByteArray) : ∃ s' is, (∀ W, Calls Tryz.prog 140 #[.string s, .string mark] W fun e w' => e = .returned (.tuple #[.string s', .bool is]) ∧ w' = W) ∧ ((is = true ∧ bts s = bts mark ++ bts s') ∨ (is = false ∧ s' = s ∧ ∀ t, bts s ≠ bts mark ++ t)) := by
  have K : ∀ W, Calls Tryz.prog 140 _ _ _ := fun W => Any.strings_CutPrefix Tryz.lays103 s mark W
  refine ⟨_, _, K, ?_⟩
  cases hp : Lib.hasPrefix s.data.toList mark.data.toList with
  | true =>
    refine .inl ⟨rfl, ?_⟩
    have h1 : mark.data.toList <+: s.data.toList := List.isPrefixOf_iff_prefix.1 hp
    obtain ⟨t, ht⟩ := h1
    unfold Lib.trimPrefix
    rw [hp, if_pos rfl]
    unfold bts
    rw [← ht, ← List.map_append]
    simp
  | false =>
    have h1 : ¬ mark.data.toList <+: s.data.toList := by
      intro h
      have : Lib.hasPrefix s.data.toList mark.data.toList = true := List.isPrefixOf_iff_prefix.2 h
      rw [hp] at this
      cases this
    refine .inr ⟨rfl, ?_, fun t e => h1 ?_⟩
    · unfold Lib.trimPrefix
      rw [hp, if_neg (by simp)]
    · unfold bts at e
      obtain ⟨a, b, e1, e2, e3⟩ := List.map_eq_append_iff.1 e
      rw [e1]
      exact ⟨b, by rw [map_inj9 e2]⟩
/-- The reader in memory. -/
abbrev Kt (r : Nat) (W w' : World) (s : ByteArray) (bad : Bool) : Prop := Kr 76 r W w' [.string s, .bool bad]
set_option maxRecDepth 8000 in
set_option maxHeartbeats 1000000 in
theorem skip9 (r : Nat) (s mark : ByteArray) (bad : Bool) (W : World) (hb : Blk W r 76 [.string s, .bool bad]) :
    Calls Tryz.prog 113 #[.pointer (some ⟨r, 0, none⟩), .string mark] W fun e w' => ∃ s' is, e = .returned (.bool is) ∧ Hid (Kt r W w' s' bad ∧ ((is = true ∧ bts s = bts mark ++ bts s') ∨ (is = false ∧ s' = s ∧ ∀ t, bts s ≠ bts mark ++ t))) := by
  obtain ⟨s', is, K, hc⟩ := cutp9 s mark
  have HC : Hid ((is = true ∧ bts s = bts mark ++ bts s') ∨ (is = false ∧ s' = s ∧ ∀ t, bts s ≠ bts mark ++ t)) := hc
  have c0 : W.cell? ⟨r, 0, none⟩ = some (.string s) := hb.cell 0
  have HB : Hid (Blk W r 76 [.string s, .bool bad]) := hb
  have K0 := K W
  clear hc hb K
  go_enter Tryz.func113, Tryz.ntmps113
  go_wp2_with fail
  refine K0.mono ?_
  rintro e w1 ⟨rfl, rfl⟩
  clear K0
  go_wp2_with (refine st_one rfl 9 (.tmp 19) (.tmp 17) rfl r 0 76 [.string s, .bool bad] (.string s') rfl rfl rfl rfl (by simp) HB.out sz9 ?_)
  intro w2 b2 g2
  have HF : Hid (Kt r w1 w2 s' bad) := ⟨b2, g2⟩
  clear b2 g2 HB
  go_wp2
  go_ret
  exact ⟨s', is, rfl, HF.out, HC.out⟩
set_option maxRecDepth 8000 in
set_option maxHeartbeats 1000000 in
theorem must9 (r : Nat) (s mark : ByteArray) (bad : Bool) (W : World) (hb : Blk W r 76 [.string s, .bool bad]) :
    Calls Tryz.prog 66 #[.pointer (some ⟨r, 0, none⟩), .string mark] W fun e w' => ∃ s' bad', e = .returned (.tuple #[]) ∧ Hid (Kt r W w' s' bad' ∧ Rm (bts mark) (bts s) bad (bts s') bad' ∧ (bad' = false → bts s = bts mark ++ bts s') ∧ s'.size ≤ s.size) := by
  have K := skip9 r s mark bad W hb
  clear hb
  go_enter Tryz.func66, Tryz.ntmps66
  go_wp2_with fail
  refine K.mono ?_
  rintro e w1 ⟨s1, is, rfl, H⟩
  have HK : Hid (Kt r W w1 s1 bad) := H.out.1
  have HC := Lib.hid H.out.2
  clear K H
  cases is with
  | true =>
    have HF : Hid (Kt r W w1 s1 bad ∧ Rm (bts mark) (bts s) bad (bts s1) bad ∧ (bad = false → bts s = bts mark ++ bts s1) ∧ s1.size ≤ s.size) := by
      rcases HC.out with ⟨_, h⟩ | ⟨h, _⟩
      · refine ⟨HK.out, by rw [h]; exact rm_yes _ _ _, fun _ => h, ?_⟩
        have := congrArg List.length h
        rw [List.length_append, bts_len, bts_len, bts_len] at this
        omega
      · cases h
    clear HK HC
    go_wp2
    go_end0
    exact ⟨s1, bad, rfl, HF.out⟩
  | false =>
    have HE : Hid (s1 = s ∧ ∀ t, bts s ≠ bts mark ++ t) := by
      rcases HC.out with ⟨h, _⟩ | ⟨_, h⟩
      · cases h
      · exact h
    clear HC
    go_wp2_with (refine st_one rfl 4 (.tmp 10) (.const (.bool true)) rfl r 1 76 [.string s1, .bool bad] (.bool true) rfl rfl rfl rfl (by simp) HK.out.blk sz4 ?_)
    intro w2 b2 g2
    have HF : Hid (Kt r W w2 s1 true ∧ Rm (bts mark) (bts s) bad (bts s1) true ∧ (true = false → bts s = bts mark ++ bts s1) ∧ s1.size ≤ s.size) := by
      obtain ⟨e, hn⟩ := HE.out
      refine ⟨HK.out.trans ⟨b2, g2⟩, by rw [e]; exact rm_no fun _ => hn, fun h => (by cases h), by rw [e]; omega⟩
    clear b2 g2 HK HE
    go_wp2
    go_end0
    exact ⟨s1, true, rfl, HF.out⟩
theorem bcons9 (s : ByteArray) (h : 0 < s.size) : bts s = (s[0]'h).toNat :: bts (s.extract 1 s.size) := by
  unfold bts
  have h2 : 0 < s.data.toList.length := by rw [Array.length_toList]; exact h
  have e : (s.extract 1 s.size).data.toList = s.data.toList.drop 1 := by
    rw [ByteArray.data_extract, show s.size = s.data.size from rfl, Array.toList_extract, List.extract_eq_take_drop]
    rw [List.take_of_length_le (by rw [List.length_drop, Array.length_toList]; omega)]
  rw [e]
  obtain ⟨x, t, hx⟩ : ∃ x t, s.data.toList = x :: t := by
    cases hl : s.data.toList with
    | nil => rw [hl] at h2; simp at h2
    | cons x t => exact ⟨x, t, rfl⟩
  have h0 : s[0]'h = x := by
    have : s.data.toList[0]'h2 = x := by simp [hx]
    rw [← this]
    rfl
  rw [hx, h0]
  simp
theorem empty9 (s : ByteArray) : (s.toList.isEmpty = true ↔ s.size = 0) := by
  rw [ByteArray.toList_eq, List.isEmpty_iff]
  constructor
  · intro h
    have := congrArg List.length h
    rw [Array.length_toList] at this
    exact this
  · intro h
    apply List.eq_nil_of_length_eq_zero
    rw [Array.length_toList]
    exact h
set_option maxRecDepth 8000 in
set_option maxHeartbeats 1000000 in
theorem next9 (r : Nat) (s : ByteArray) (bad : Bool) (hs : s.size ≤ 1000000000) (W : World) (hb : Blk W r 76 [.string s, .bool bad]) :
    Calls Tryz.prog 116 #[.pointer (some ⟨r, 0, none⟩)] W fun e w' => ∃ (s' : ByteArray) (bad' : Bool) (c : Nat), e = .returned (.int .u8 (c : Int)) ∧ Hid (Kt r W w' s' bad' ∧ c < 256 ∧ ((s.size = 0 ∧ s' = s ∧ bad' = true ∧ c = 0) ∨ (bts s = c :: bts s' ∧ bad' = bad ∧ s.size = s'.size + 1))) := by
  have c0 : W.cell? ⟨r, 0, none⟩ = some (.string s) := hb.cell 0
  have HB : Hid (Blk W r 76 [.string s, .bool bad]) := hb
  clear hb
  by_cases h0 : s.size = 0
  · have he : s.toList.isEmpty = true := (empty9 s).2 h0
    go_enter Tryz.func116, Tryz.ntmps116
    go_wp2_with (refine st_one rfl 4 (.tmp 11) (.const (.bool true)) rfl r 1 76 [.string s, .bool bad] (.bool true) rfl rfl rfl rfl (by simp) HB.out sz4 ?_)
    intro w2 b2 g2
    have HF : Hid (Kt r W w2 s true) := ⟨b2, g2⟩
    clear b2 g2 HB
    go_wp2
    go_ret
    exact ⟨s, true, 0, rfl, HF.out, by omega, .inl ⟨h0, rfl, rfl, rfl⟩⟩
  · have he : s.toList.isEmpty = false := by
      cases hh : s.toList.isEmpty with
      | true => exact absurd ((empty9 s).1 hh) h0
      | false => rfl
    have hp : 0 < s.size := by omega
    have HE : Hid (bts s = (s[0]'hp).toNat :: bts (s.extract 1 s.size) ∧ s.size = (s.extract 1 s.size).size + 1 ∧ (s[0]'hp).toNat < 256) := ⟨bcons9 s hp, by simp [ByteArray.size_extract]; omega, (s[0]'hp).toNat_lt⟩
    have h1 : (1 : Int) ≤ (s.size : Int) := by omega
    clear h0
    go_enter Tryz.func116, Tryz.ntmps116
    go_wp2_with (refine st_one rfl 9 (.tmp 24) (.tmp 22) rfl r 0 76 [.string s, .bool bad] (.string (s.extract 1 s.size)) rfl rfl rfl rfl (by simp) HB.out sz9 ?_)
    intro w2 b2 g2
    have HF : Hid (Kt r W w2 (s.extract 1 s.size) bad) := ⟨b2, g2⟩
    clear b2 g2 HB
    go_wp2
    go_ret
    exact ⟨_, bad, _, rfl, HF.out, HE.out.2.2, .inr ⟨HE.out.1, rfl, HE.out.2.1⟩⟩
end Go.Proofs.YtmlfhplhiedfjaaGreatDoor
