/-
  A strings.Builder that the call made: copyCheck, WriteByte, WriteString, String.
-/
import Derived.Test.YtmlfhplhiedfjaaGreatDoorCG8x
import Derived.Test.YtmlfhplhiedfjaaGreatDoorCG6x
import Derived.Laws.Pointers
namespace Go.Proofs.YtmlfhplhiedfjaaGreatDoor
open Go.RowKit Math
set_option linter.unusedVariables false
set_option linter.unusedSimpArgs false
/-- A builder in a block of its own, and its bytes. -/
structure Bs (b B : Nat) (W : World) (v : Value) (l : List Nat) : Prop where
  blk : Blk W b 68 [.pointer none, v] ∨ Blk W b 68 [.pointer (some ⟨b, 0, none⟩), v]
  own : Own W B v l
  ne : v.ownBlock ≠ some b
  le : B ≤ b
/-- What a write leaves: all blocks but the builder's and its row's. -/
structure Bw (b B : Nat) (W w' : World) (v v' : Value) (l' : List Nat) : Prop where
  bs : Bs b B w' v' l'
  os : w'.os = W.os
  tape : w'.tape = W.tape
  output : w'.output = W.output
  size : W.heap.size ≤ w'.heap.size
  keep : ∀ x, x < W.heap.size → x ≠ b → v.ownBlock ≠ some x → w'.heap[x]? = W.heap[x]?
  ob : ∀ x, v'.ownBlock = some x → v.ownBlock = some x ∨ W.heap.size ≤ x
theorem Bs.lt {b B : Nat} {W : World} {v : Value} {l : List Nat} (h : Bs b B W v l) : b < W.heap.size := by
  rcases h.blk with h | h <;> exact h.lt
theorem Bw.refl {b B : Nat} {W : World} {v : Value} {l : List Nat} (h : Bs b B W v l) : Bw b B W W v v l := ⟨h, rfl, rfl, rfl, Nat.le_refl _, fun _ _ _ _ => rfl, fun _ h => .inl h⟩
theorem Bw.trans {b B : Nat} {W w1 w2 : World} {v v1 v2 : Value} {l1 l2 : List Nat} (h : Bw b B W w1 v v1 l1) (k : Bw b B w1 w2 v1 v2 l2) : Bw b B W w2 v v2 l2 := by
  have hs := h.size
  refine ⟨k.bs, k.os.trans h.os, k.tape.trans h.tape, k.output.trans h.output, Nat.le_trans hs k.size, fun x hx h1 h2 => ?_, fun x hx => ?_⟩
  · rw [k.keep x (by omega) h1 (fun e => ?_), h.keep x hx h1 h2]
    rcases h.ob x e with h3 | h3
    · exact h2 h3
    · omega
  · rcases k.ob x hx with h3 | h3
    · exact h.ob x h3
    · exact .inr (by omega)
/-- New blocks behind a step. -/
theorem Bs.below {b B : Nat} {W w' : World} {v : Value} {l : List Nat} (h : Bs b B W v l) (g : Below W.heap.size W w') : Bs b B w' v l :=
  ⟨h.blk.imp (fun k => k.below g k.lt) (fun k => k.below g k.lt), h.own.below g, h.ne, h.le⟩
theorem Bw.more {b B : Nat} {W w1 w2 : World} {v v1 : Value} {l1 : List Nat} (h : Bw b B W w1 v v1 l1) (g : Below w1.heap.size w1 w2) : Bw b B W w2 v v1 l1 :=
  ⟨h.bs.below g, g.os.trans h.os, g.tape.trans h.tape, g.output.trans h.output, Nat.le_trans h.size g.size, fun x hx h1 h2 => (g.block x (Nat.lt_of_lt_of_le hx h.size)).trans (h.keep x hx h1 h2), h.ob⟩
theorem Bw.after {b B : Nat} {W w1 w2 : World} {v v2 : Value} {l2 : List Nat} (g : Below W.heap.size W w1) (k : Bw b B w1 w2 v v2 l2) : Bw b B W w2 v v2 l2 :=
  ⟨k.bs, k.os.trans g.os, k.tape.trans g.tape, k.output.trans g.output, Nat.le_trans g.size k.size, fun x hx h1 h2 => (k.keep x (Nat.lt_of_lt_of_le hx g.size) h1 h2).trans (g.block x hx), fun x hx => (k.ob x hx).imp id (fun h => Nat.le_trans g.size h)⟩
theorem Bw.down {b B C : Nat} {w0 W w' : World} {v v' : Value} {l l' : List Nat} (k : Bw b B W w' v v' l') (h : Bs b B W v l) (hb : Below C w0 W) (hC : C ≤ B) : Below C w0 w' := by
  have h1 := h.le
  have h2 := h.lt
  refine ⟨k.os.trans hb.os, k.tape.trans hb.tape, k.output.trans hb.output, Nat.le_trans hb.size k.size, fun x hx => ?_⟩
  rw [k.keep x (by omega) (by omega) (fun e => ?_)]
  · exact hb.block x hx
  · have := (World.ownsRow.lt h.own x e).1
    omega
/-- A block that is neither of them. -/
theorem Bw.blk {b B : Nat} {W w' : World} {v v' : Value} {l' : List Nat} (k : Bw b B W w' v v' l') {x : Nat} {t : TypeId} {vs : List Value} (h : Blk W x t vs) (h1 : x ≠ b) (h2 : v.ownBlock ≠ some x) : Blk w' x t vs := by
  unfold Blk at h ⊢
  rw [k.keep x (Array.getElem?_eq_some_iff.1 h).1 h1 h2]
  exact h
theorem Blk.shp {W : World} {b : Nat} {t : TypeId} {vs : List Value} (h : Blk W b t vs) : W.shape? b = some (t, vs.length) := by
  unfold Blk at h
  simp [World.shape?, h]
theorem copy_any {b B : Nat} {W : World} {v : Value} {l : List Nat} (h : Bs b B W v l) :
    Calls Tryz.prog 100 #[.pointer (some ⟨b, 0, none⟩)] W fun e w' => e = .returned (.tuple #[]) ∧ Hid (Bw b B W w' v v l ∧ Blk w' b 68 [.pointer (some ⟨b, 0, none⟩), v]) := by
  rcases h.blk with hb | hb
  · have K : Calls Tryz.prog 100 _ _ _ := Any.Builder_copyCheck_fresh (ρ := Tryz.laysM155_ren) { Tryz.laysM155 with } Tryz.Builder_Extra_M155.toX72 b W (hb.cell 0) hb.shp (hb.frozen 0)
    refine K.mono ?_
    rintro e w' ⟨rfl, rfl⟩
    have h2 : Blk (W.setCell ⟨b, 0, none⟩ (.pointer (some ⟨b, 0, none⟩))) b 68 [.pointer (some ⟨b, 0, none⟩), v] := hb.set 0 _
    have g := grown_setCell W ⟨b, 0, none⟩ (.pointer (some ⟨b, 0, none⟩))
    refine ⟨rfl, ⟨⟨.inr h2, World.ownsRow.kept h.own g (.inr fun c => h.ne c), h.ne, h.le⟩, g.os, g.tape, g.output, g.size, fun x hx h1 h3 => g.block x hx (fun c => h1 (Option.some.inj c)), fun x hx => .inl hx⟩, h2⟩
  · have K : Calls Tryz.prog 100 _ _ _ := Any.Builder_copyCheck_used (ρ := Tryz.laysM155_ren) { Tryz.laysM155 with } Tryz.Builder_Extra_M155.toX72 b W (hb.cell 0)
    refine K.mono ?_
    rintro e w' ⟨rfl, rfl⟩
    exact ⟨rfl, Bw.refl h, hb⟩
theorem s52 : (Tryz.prog.info? 52).map (·.size) = some 1 := by kernel_rfl
/-- Behind an append and the store of what it answers. -/
theorem Bw.app {b B : Nat} {W w1 w2 w3 : World} {v v' : Value} {l l' : List Nat} (h : Bw b B W w1 v v l) (hb : Blk w1 b 68 [.pointer (some ⟨b, 0, none⟩), v]) (w1' : World) (g1 : Below w1.heap.size w1 w1') (A : Ap B w1' w2 v v' l')
    (hs : Blk w3 b 68 [.pointer (some ⟨b, 0, none⟩), v']) (g3 : w2.grownBy w3 (some b)) : Bw b B W w3 v v' l' := by
  have hlt := hb.lt
  have z1 := g1.size
  have z2 := A.gr.size
  have z3 := g3.size
  have hne : v'.ownBlock ≠ some b := fun e => by
    rcases A.ob b e with c | c
    · exact h.bs.ne c
    · omega
  have k : Bw b B w1 w3 v v' l' := by
    refine ⟨⟨.inr hs, World.ownsRow.kept A.own g3 (.inr fun c => hne c), hne, h.bs.le⟩, ?_, ?_, ?_, by omega, fun x hx h1 h2 => ?_, fun x hx => ?_⟩
    · rw [g3.os, A.gr.os, g1.os]
    · rw [g3.tape, A.gr.tape, g1.tape]
    · rw [g3.output, A.gr.output, g1.output]
    · rw [g3.block x (by omega) (fun c => h1 (Option.some.inj c)), A.gr.block x (by omega) (fun c => h2 c.symm), g1.block x hx]
    · rcases A.ob x hx with c | c
      · exact .inl c
      · exact .inr (by omega)
  exact h.trans k
set_option maxRecDepth 8000 in
set_option maxHeartbeats 1000000 in
theorem wrb9 (c : Nat) {b B : Nat} {W : World} {v : Value} {l : List Nat} (h : Bs b B W v l) (hl : l.length ≤ 900000000) :
    Calls Tryz.prog 106 #[.pointer (some ⟨b, 0, none⟩), .int .u8 (c : Int)] W fun e w' => ∃ v', e = .returned .nilIface ∧ Hid (Bw b B W w' v v' (l ++ [c])) := by
  have K := copy_any h
  have hlt := h.lt
  have hle := h.le
  clear h
  go_enter Tryz.func106, Tryz.ntmps106
  go_wp2_with fail
  refine K.mono ?_
  rintro e w1 ⟨rfl, H⟩
  clear K
  have c1 : w1.cell? ⟨b, 1, none⟩ = some v := H.out.2.cell 1
  have hs1 : B ≤ w1.heap.size := by have := H.out.1.size; omega
  go_wp2_with (at_builtin; go_must (refine ap_bytes rfl (.tmp 11) (.tmp 13) rfl B v l rfl (H.out.1.bs.own.alloc _) _ _ _ [c] rfl rfl (byt_lit w1 [c]) (by simp) (by simp; omega) (by simp; omega) ?_))
  intro v' w2 A
  have hb2 : Blk w2 b 68 [.pointer (some ⟨b, 0, none⟩), v] := A.blk (H.out.2.alloc _) H.out.1.bs.ne
  have HA : Hid (Ap B (w1.alloc (Obj.cells #[.int .u8 (c : Int)] 5)) w2 v v' (l ++ [c])) := A
  have HV : Hid (v'.cells = #[v'] ∧ v'.oneCell' = true) := by
    obtain ⟨aa, cc, hv', _⟩ := A.own.byt
    rw [hv']
    exact ⟨rfl, rfl⟩
  clear A c1
  go_wp2_with (refine st_one rfl 52 (.tmp 16) (.tmp 14) rfl b 1 68 _ v' rfl rfl HV.out.1 HV.out.2 (by simp) hb2 s52 ?_)
  intro w3 b3 g3
  have HF : Hid (Bw b B W w3 v v' (l ++ [c])) := Bw.app H.out.1 H.out.2 _ ((Below.refl _ _).alloc (Nat.le_refl _) _) HA.out b3 g3
  clear b3 g3 HA H hb2
  go_wp2
  go_ret
  exact ⟨v', rfl, HF.out⟩
set_option maxRecDepth 8000 in
set_option maxHeartbeats 1000000 in
theorem wrs9 (s : ByteArray) {b B : Nat} {W : World} {v : Value} {l : List Nat} (h : Bs b B W v l) (hl : l.length + s.size ≤ 900000000) :
    Calls Tryz.prog 54 #[.pointer (some ⟨b, 0, none⟩), .string s] W fun e w' => ∃ v', e = .returned (.tuple #[.int .i64 (s.size : Int), .nilIface]) ∧ Hid (Bw b B W w' v v' (l ++ bts s)) := by
  have K := copy_any h
  have hlt := h.lt
  have hle := h.le
  clear h
  go_enter Tryz.func54, Tryz.ntmps54
  go_wp2_with fail
  refine K.mono ?_
  rintro e w1 ⟨rfl, H⟩
  clear K
  have c1 : w1.cell? ⟨b, 1, none⟩ = some v := H.out.2.cell 1
  have hs1 : B ≤ w1.heap.size := by have := H.out.1.size; omega
  go_wp2_with (at_builtin; go_must (refine ap_str rfl (.tmp 12) (.tmp 13) rfl B v l rfl H.out.1.bs.own s rfl (by omega) (by omega) ?_))
  intro v' w2 A
  have hb2 : Blk w2 b 68 [.pointer (some ⟨b, 0, none⟩), v] := A.blk H.out.2 H.out.1.bs.ne
  have HA : Hid (Ap B w1 w2 v v' (l ++ bts s)) := A
  have HV : Hid (v'.cells = #[v'] ∧ v'.oneCell' = true) := by
    obtain ⟨aa, cc, hv', _⟩ := A.own.byt
    rw [hv']
    exact ⟨rfl, rfl⟩
  clear A c1
  go_wp2_with (refine st_one rfl 52 (.tmp 16) (.tmp 14) rfl b 1 68 _ v' rfl rfl HV.out.1 HV.out.2 (by simp) hb2 s52 ?_)
  intro w3 b3 g3
  have HF : Hid (Bw b B W w3 v v' (l ++ bts s)) := Bw.app H.out.1 H.out.2 _ (Below.refl _ _) HA.out b3 g3
  clear b3 g3 HA H hb2
  go_wp2
  go_ret2
  exact ⟨v', rfl, HF.out⟩
theorem vals_cells {l : List Nat} (h : Oct l) : vals l = Lib.byteCells (l.map UInt8.ofNat) := by
  unfold vals Lib.byteCells
  rw [List.map_map]
  apply List.map_congr_left
  intro x hx
  have := h x hx
  simp only [Function.comp]
  rw [show (UInt8.ofNat x).toNat = x by rw [UInt8.toNat_ofNat']; omega]
theorem bstr9 {b B : Nat} {W : World} {v : Value} {l : List Nat} (h : Bs b B W v l) (ho : Oct l) :
    Calls Tryz.prog 32 #[.pointer (some ⟨b, 0, none⟩)] W fun e w' => e = .returned (.string (ofB l)) ∧ Below B W w' := by
  have hw : W.ownsRow B 5 1 v (Lib.byteCells (l.map UInt8.ofNat)).length (Lib.byteCells (l.map UInt8.ofNat)) := by
    have := h.own
    unfold Own at this
    rw [vals_cells ho] at this
    rw [Lib.byteCells_length, List.length_map]
    exact this
  have hi : Lib.IsBuilder 68 5 B b (Lib.byteCells (l.map UInt8.ofNat)) W := by
    rcases h.blk with hb | hb
    · exact .inl ⟨h.le, v, hb, hw, h.ne⟩
    · exact .inr ⟨h.le, v, hb, hw, h.ne⟩
  have hlt := h.lt
  have hle := h.le
  have K : Calls Tryz.prog 32 _ _ _ := Any.Builder_String_any Tryz.lays169 Tryz.Builder_Extra_169 B b (l.map UInt8.ofNat) W hi (by omega)
  exact K
end Go.Proofs.YtmlfhplhiedfjaaGreatDoor
