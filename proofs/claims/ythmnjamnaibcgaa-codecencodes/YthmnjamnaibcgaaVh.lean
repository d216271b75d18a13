/-
  codec.Hash and the document's own Hash.
-/
import Derived.Test.YthmnjamnaibcgaaSb
import Derived.Test.YthmnjamnaibcgaaVe
namespace Go.Proofs.Ythmnjamnaibcgaa.Sh
open Go.RowKit Mt
set_option linter.unusedVariables false
set_option linter.unusedSimpArgs false
theorem res_two {P : Program} {w : World} {fn : Func} {p q : Tmp} {ty : TypeId} (h : fn.results = #[.cell p ty, .tmp q]) (tmps : Array Value) (g : Nat) (t : TypeId) (cs : List Value) (d : TypeDesc)
    (hp : tmps.getD p undef = .pointer (some ⟨g, 0, none⟩)) (hg : Blk w g t cs) (hu : P.underlying ty = some d) (hd : d.isRow = true) (hi : (P.info? ty).map (·.size) = some cs.length) :
    (results fn tmps).run P w = .ok (.tuple #[.agg cs.toArray, tmps.getD q undef]) w := by
  have hp' : tmps[p]?.getD undef = .pointer (some ⟨g, 0, none⟩) := by simpa using hp
  simp [results, h, hp', asAddr, run_loadVar_row w g t ty cs.toArray (0, 0) d hg hu (by cases d <;> simp_all [TypeDesc.isRow]) (by simpa using hi)]
def zr : List Nat := List.replicate 32 0
theorem z_built (a : Act) : Try.prog.built 36 ((#[] : Array (Nat × Operand)).map fun p => (p.1, a.eval p.2)).toList = some (nums .u8 zr).toArray := by kernel_rfl
theorem enc_of2 {p : Vt} (ep : encE p = 0) : Oct (encB p) ∧ (encB p).length ≤ 65536 := by
  have e1 : chkV p 1 = 0 := by
    unfold encE at ep
    split at ep
    · next h => exact absurd ep h
    · next h => simpa using h
  have e2 : ¬ 65536 < (encV p).length := by
    unfold encE at ep
    rw [if_neg (by simpa using e1)] at ep
    intro h
    rw [if_pos h] at ep
    cases ep
  rw [(encE_yes e1 e2).2]
  exact ⟨encV_oct p (chk1 e1), by omega⟩
/-- What Hash answers. -/
def hshL (p : Vt) : List Nat := if encE p = 0 then D (0 :: encB p) else zr
theorem hsh_len (p : Vt) : (hshL p).length = 32 := by
  unfold hshL
  split
  · exact D_len _
  · rfl
theorem hsh_no {p : Vt} (h : encE p ≠ 0) : hshL p = zr := by unfold hshL; rw [if_neg h]
theorem hsh_yes {p : Vt} (h : encE p = 0) : hshL p = D (0 :: encB p) := by unfold hshL; rw [if_pos h]
set_option maxRecDepth 8000 in
set_option maxHeartbeats 1000000 in
theorem hash_any (p : Vt) (hw : WfV p) (hws : Go.Proofs.Ythmnjamnaibcgaa.ws p ≤ 100000) (na : Option Addr) (nc : Nat) (ka : Option Addr) (kc : Nat) (W : World) (hv : Vl W p na nc ka kc) :
    Calls Try.prog 8 #[.agg #[.int .i64 p.1.k, .int .i64 p.1.n, .int .i64 p.1.s, .string p.1.t, .slice na p.1.ns.length nc, .slice ka p.2.list.length kc]] W fun e w' => e = .returned (.tuple #[.agg (nums .u8 (hshL p)).toArray, .int .i64 (encE p)]) ∧ Below W.heap.size W w' := by
  obtain ⟨W1, HW1⟩ : ∃ W1, Hid (W.alloc (.cells #[.int .i64 p.1.k, .int .i64 p.1.n, .int .i64 p.1.s, .string p.1.t, .slice na p.1.ns.length nc, .slice ka p.2.list.length kc] 25) = W1) := ⟨_, rfl⟩
  have HX : Hid (Blk W1 W.heap.size 25 (six p.1 na nc ka p.2.list.length kc)) := by rw [← HW1.out]; exact blk_new W 25 (six p.1 na nc ka p.2.list.length kc)
  have HB1 : Hid (Below W.heap.size W W1) := by rw [← HW1.out]; exact (Below.refl _ _).alloc (Nat.le_refl _) _
  have HV : Hid (Vl W p na nc ka kc) := hv
  have KE : Hid (∀ w, Vl w p na nc ka kc → Calls Try.prog 6 #[.agg #[.int .i64 p.1.k, .int .i64 p.1.n, .int .i64 p.1.s, .string p.1.t, .slice na p.1.ns.length nc, .slice ka p.2.list.length kc]] w fun e w' => ∃ v', e = .returned (.tuple #[v', .int .i64 (encE p)]) ∧ Hid (Own w' w.heap.size v' (encB p) ∧ Below w.heap.size w w')) := fun w h => encode_any p hw hws na nc ka kc w h
  have HN : Hid (encE p ≠ 0 → hshL p = zr) := hsh_no
  have HY : Hid (encE p = 0 → hshL p = D (0 :: encB p) ∧ Oct (encB p) ∧ (encB p).length ≤ 65536) := fun h => ⟨hsh_yes h, enc_of2 h⟩
  have HL : Hid ((hshL p).length = 32) := hsh_len p
  generalize encE p = EE at *
  generalize encB p = BB at *
  generalize hshL p = HH at *
  clear hv hw hws
  go_enter Try.func8, Try.ntmps8
  go_wp2_with (generalize hWW : World.alloc W _ = W9; obtain rfl : W1 = W9 := (by rw [← hWW, ← HW1.out]); clear hWW HW1; refine al_zero rfl 36 rfl (nums .u8 zr) z25 ?_)
  intro g w1 hg1 Bz G1
  have Z1 : Below W1.heap.size W1 w1 := (Below.refl _ _).grown G1 (Nat.le_refl _) (fun k e => by cases e)
  have HZ : Hid (Below W.heap.size W w1) := HB1.out.trans (Z1.mono HB1.out.size)
  have HX1 : Hid (Blk w1 W.heap.size 25 (six p.1 na nc ka p.2.list.length kc)) := HX.out.below Z1 HX.out.lt
  have HG : Hid (Blk w1 g 36 (nums .u8 zr)) := Bz
  have hgW : W.heap.size ≤ g := Nat.le_trans HB1.out.size hg1
  clear Z1 G1 Bz HX HB1 hg1
  have c0 : w1.cell? ⟨W.heap.size, 0, none⟩ = some (.int .i64 p.1.k) := HX1.out.cell 0
  have c1 : w1.cell? ⟨W.heap.size, 1, none⟩ = some (.int .i64 p.1.n) := HX1.out.cell 1
  have c2 : w1.cell? ⟨W.heap.size, 2, none⟩ = some (.int .i64 p.1.s) := HX1.out.cell 2
  have c3 : w1.cell? ⟨W.heap.size, 3, none⟩ = some (.string p.1.t) := HX1.out.cell 3
  have c4 : w1.cell? ⟨W.heap.size, 4, none⟩ = some (.slice na p.1.ns.length nc) := HX1.out.cell 4
  have c5 : w1.cell? ⟨W.heap.size, 5, none⟩ = some (.slice ka p.2.list.length kc) := HX1.out.cell 5
  have K := KE.out w1 (HV.out.below HZ.out)
  go_wp2_with fail
  refine K.mono ?_
  clear K KE c0 c1 c2 c3 c4 c5 HX1
  rintro e w2 ⟨v2, rfl, H2⟩
  have HG2 : Hid (Blk w2 g 36 (nums .u8 zr)) := HG.out.below H2.out.2 HG.out.lt
  have HZ2 : Hid (Below W.heap.size W w2) := HZ.out.trans (H2.out.2.mono HZ.out.size)
  obtain ⟨ax, c, rfl, hby, hnl, hlc, hcm⟩ := H2.out.1.byt
  have HBy : Hid (Byt w2 ax BB) := hby
  clear H2 HG HZ hby
  have IZ : Hid ((Try.prog.info? 36).map (·.size) = some (nums .u8 zr).length) := by show _ = _; rw [nums_length]; exact s25
  by_cases hE : EE = 0
  case neg =>
    have e1 := HN.out hE
    subst e1
    have hEb : (EE != 0) = true := by simpa using hE
    go_wp2_with (first | (refine bd_row rfl 36 #[] rfl (nums .u8 zr) (z_built _) ?_) | (refine st_all rfl 36 (.tmp 2) (.tmp 13) rfl g 36 (nums .u8 zr) (nums .u8 zr) rfl rfl HG2.out rfl IZ.out (nums_one _ _) ?_))
    intro w3 B3 G3
    go_wp2
    (try simp only [Exit.inBlock, Exit.then])
    refine bodyPost_ret (res_two rfl _ g 36 _ _ rfl B3 Try.underlying36 rfl IZ.out) rfl ⟨rfl, HZ2.out.grown G3 HZ2.out.size (fun r e => by obtain rfl := Option.some.inj e; exact hgW)⟩
  subst hE
  obtain ⟨e1, ho, hlen⟩ := HY.out rfl
  have HOc : Hid (Oct BB) := ho
  have KL := leaf_any ax c BB (by omega) w2 HBy.out hlc HOc.out
  rw [← e1] at KL
  have ID : Hid ((Try.prog.info? 36).map (·.size) = some (nums .u8 HH).length) := by show _ = _; rw [nums_length, HL.out]; exact s25
  have ND : Hid ((nums .u8 HH).length = (nums .u8 zr).length) := by show _ = _; rw [nums_length, nums_length, HL.out]; rfl
  clear HN HY ho e1 HBy HOc
  go_wp2_with fail
  refine KL.mono ?_
  rintro e w3 ⟨rfl, z3⟩
  have HG3 : Hid (Blk w3 g 36 (nums .u8 zr)) := HG2.out.below z3 HG2.out.lt
  have HZ3 : Hid (Below W.heap.size W w3) := HZ2.out.trans (z3.mono HZ2.out.size)
  clear KL z3 HG2 HZ2
  go_wp2_with (refine st_all rfl 36 (.tmp 2) (.tmp 16) rfl g 36 (nums .u8 zr) (nums .u8 HH) rfl rfl HG3.out ND.out ID.out (nums_one _ _) ?_)
  intro w4 B4 G4
  go_wp2
  (try simp only [Exit.inBlock, Exit.then])
  refine bodyPost_ret (res_two rfl _ g 36 _ _ rfl B4 Try.underlying36 rfl ID.out) rfl ⟨rfl, HZ3.out.grown G4 HZ3.out.size (fun r e => by obtain rfl := Option.some.inj e; exact hgW)⟩
set_option maxRecDepth 8000 in
set_option maxHeartbeats 1000000 in
theorem rhash_any (p : Vt) (hw : WfV p) (hws : Go.Proofs.Ythmnjamnaibcgaa.ws p ≤ 100000) (na : Option Addr) (nc : Nat) (ka : Option Addr) (kc : Nat) (W : World) (hv : Vl W p na nc ka kc) :
    Calls Try.prog 9 #[.agg #[.int .i64 p.1.k, .int .i64 p.1.n, .int .i64 p.1.s, .string p.1.t, .slice na p.1.ns.length nc, .slice ka p.2.list.length kc]] W fun e w' => e = .returned (.tuple #[.agg (nums .u8 (hshL p)).toArray, .int .i64 (encE p)]) ∧ Below W.heap.size W w' := by
  obtain ⟨W1, HW1⟩ : ∃ W1, Hid (W.alloc (.cells #[.int .i64 p.1.k, .int .i64 p.1.n, .int .i64 p.1.s, .string p.1.t, .slice na p.1.ns.length nc, .slice ka p.2.list.length kc] 25) = W1) := ⟨_, rfl⟩
  have HX : Hid (Blk W1 W.heap.size 25 (six p.1 na nc ka p.2.list.length kc)) := by rw [← HW1.out]; exact blk_new W 25 (six p.1 na nc ka p.2.list.length kc)
  have HB1 : Hid (Below W.heap.size W W1) := by rw [← HW1.out]; exact (Below.refl _ _).alloc (Nat.le_refl _) _
  have HV : Hid (Vl W p na nc ka kc) := hv
  have KE : Hid (∀ w, Vl w p na nc ka kc → Calls Try.prog 7 #[.agg #[.int .i64 p.1.k, .int .i64 p.1.n, .int .i64 p.1.s, .string p.1.t, .slice na p.1.ns.length nc, .slice ka p.2.list.length kc]] w fun e w' => ∃ v', e = .returned (.tuple #[v', .int .i64 (encE p)]) ∧ Hid (Own w' w.heap.size v' (encB p) ∧ Below w.heap.size w w')) := fun w h => rencode_any p hw hws na nc ka kc w h
  have HN : Hid (encE p ≠ 0 → hshL p = zr) := hsh_no
  have HY : Hid (encE p = 0 → hshL p = D (0 :: encB p) ∧ Oct (encB p) ∧ (encB p).length ≤ 65536) := fun h => ⟨hsh_yes h, enc_of2 h⟩
  have HL : Hid ((hshL p).length = 32) := hsh_len p
  generalize encE p = EE at *
  generalize encB p = BB at *
  generalize hshL p = HH at *
  clear hv hw hws
  go_enter Try.func9, Try.ntmps9
  go_wp2_with (generalize hWW : World.alloc W _ = W9; obtain rfl : W1 = W9 := (by rw [← hWW, ← HW1.out]); clear hWW HW1; refine al_zero rfl 36 rfl (nums .u8 zr) z25 ?_)
  intro g w1 hg1 Bz G1
  have Z1 : Below W1.heap.size W1 w1 := (Below.refl _ _).grown G1 (Nat.le_refl _) (fun k e => by cases e)
  have HZ : Hid (Below W.heap.size W w1) := HB1.out.trans (Z1.mono HB1.out.size)
  have HX1 : Hid (Blk w1 W.heap.size 25 (six p.1 na nc ka p.2.list.length kc)) := HX.out.below Z1 HX.out.lt
  have HG : Hid (Blk w1 g 36 (nums .u8 zr)) := Bz
  have hgW : W.heap.size ≤ g := Nat.le_trans HB1.out.size hg1
  clear Z1 G1 Bz HX HB1 hg1
  have c0 : w1.cell? ⟨W.heap.size, 0, none⟩ = some (.int .i64 p.1.k) := HX1.out.cell 0
  have c1 : w1.cell? ⟨W.heap.size, 1, none⟩ = some (.int .i64 p.1.n) := HX1.out.cell 1
  have c2 : w1.cell? ⟨W.heap.size, 2, none⟩ = some (.int .i64 p.1.s) := HX1.out.cell 2
  have c3 : w1.cell? ⟨W.heap.size, 3, none⟩ = some (.string p.1.t) := HX1.out.cell 3
  have c4 : w1.cell? ⟨W.heap.size, 4, none⟩ = some (.slice na p.1.ns.length nc) := HX1.out.cell 4
  have c5 : w1.cell? ⟨W.heap.size, 5, none⟩ = some (.slice ka p.2.list.length kc) := HX1.out.cell 5
  have K := KE.out w1 (HV.out.below HZ.out)
  go_wp2_with fail
  refine K.mono ?_
  clear K KE c0 c1 c2 c3 c4 c5 HX1
  rintro e w2 ⟨v2, rfl, H2⟩
  have HG2 : Hid (Blk w2 g 36 (nums .u8 zr)) := HG.out.below H2.out.2 HG.out.lt
  have HZ2 : Hid (Below W.heap.size W w2) := HZ.out.trans (H2.out.2.mono HZ.out.size)
  obtain ⟨ax, c, rfl, hby, hnl, hlc, hcm⟩ := H2.out.1.byt
  have HBy : Hid (Byt w2 ax BB) := hby
  clear H2 HG HZ hby
  have IZ : Hid ((Try.prog.info? 36).map (·.size) = some (nums .u8 zr).length) := by show _ = _; rw [nums_length]; exact s25
  by_cases hE : EE = 0
  case neg =>
    have e1 := HN.out hE
    subst e1
    have hEb : (EE != 0) = true := by simpa using hE
    go_wp2_with (first | (refine bd_row rfl 36 #[] rfl (nums .u8 zr) (z_built _) ?_) | (refine st_all rfl 36 (.tmp 2) (.tmp 13) rfl g 36 (nums .u8 zr) (nums .u8 zr) rfl rfl HG2.out rfl IZ.out (nums_one _ _) ?_))
    intro w3 B3 G3
    go_wp2
    (try simp only [Exit.inBlock, Exit.then])
    refine bodyPost_ret (res_two rfl _ g 36 _ _ rfl B3 Try.underlying36 rfl IZ.out) rfl ⟨rfl, HZ2.out.grown G3 HZ2.out.size (fun r e => by obtain rfl := Option.some.inj e; exact hgW)⟩
  subst hE
  obtain ⟨e1, ho, hlen⟩ := HY.out rfl
  have HOc : Hid (Oct BB) := ho
  have KL := rleaf_any ax c BB (by omega) w2 HBy.out hnl HOc.out
  rw [← e1] at KL
  have ID : Hid ((Try.prog.info? 36).map (·.size) = some (nums .u8 HH).length) := by show _ = _; rw [nums_length, HL.out]; exact s25
  have ND : Hid ((nums .u8 HH).length = (nums .u8 zr).length) := by show _ = _; rw [nums_length, nums_length, HL.out]; rfl
  clear HN HY ho e1 HBy HOc
  go_wp2_with fail
  refine KL.mono ?_
  rintro e w3 ⟨rfl, z3⟩
  have HG3 : Hid (Blk w3 g 36 (nums .u8 zr)) := HG2.out.below z3 HG2.out.lt
  have HZ3 : Hid (Below W.heap.size W w3) := HZ2.out.trans (z3.mono HZ2.out.size)
  clear KL z3 HG2 HZ2
  go_wp2_with (refine st_all rfl 36 (.tmp 2) (.tmp 16) rfl g 36 (nums .u8 zr) (nums .u8 HH) rfl rfl HG3.out ND.out ID.out (nums_one _ _) ?_)
  intro w4 B4 G4
  go_wp2
  (try simp only [Exit.inBlock, Exit.then])
  refine bodyPost_ret (res_two rfl _ g 36 _ _ rfl B4 Try.underlying36 rfl ID.out) rfl ⟨rfl, HZ3.out.grown G4 HZ3.out.size (fun r e => by obtain rfl := Option.some.inj e; exact hgW)⟩
end Go.Proofs.Ythmnjamnaibcgaa.Sh
