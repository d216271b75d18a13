/-
  codec's appendKids. · The document's lex: classes of bytes. · The document's lex: words, signs. · The document's lex: signs. · The document's lex: small letters. · The document's lex: numbers.
-/
import Derived.Test.YtpfiejmhnkcjbaaGreatDoorFG7x
import Derived.Test.YtpfiejmhnkcjbaaGreatDoorFG0x
import Derived.Test.YtpfiejmhnkcjbaaGreatDoorFG1x
import Derived.Laws.BytesArg
import Derived.Laws.IdiomStrings
namespace Go.Proofs.YtpfiejmhnkcjbaaGreatDoor
open Go.RowKit Math
set_option linter.unusedVariables false
theorem al_zero {P : Program} {ops : Array Oper} {rest : List Oper} {o : Oper} {a : Act} {w : World} {Q : Exit → Act → World → Prop} (hg : o.guard = none) (t : TypeId) (ho : o.op = .alloc t) (cs : List Value) (hz : (P.info? t).map (fun i => i.zero.map (·.cells)) = some (some cs.toArray))
    (h : ∀ g w', w.heap.size ≤ g → Blk w' g t cs → w.grownBy w' none → wpList P ops Q rest (a.put o.dst (.pointer (some ⟨g, 0, none⟩))) w') : wpList P ops Q (o :: rest) a w := by
  refine wpList_plain hg fun K hK => ?_
  unfold Oper.wp execOp
  cases hi : P.info? t with
  | none => simp [hi] at hz
  | some i =>
    cases hq : i.zero with
    | none => simp [hi, hq] at hz
    | some z =>
      have hc : z.cells = cs.toArray := by simpa [hi, hq] using hz
      have hzv : (zeroValue t).run P w = .ok z w := by simp [zeroValue, typeInfo, hi, hq]
      simp only [ho, Sem.run_bind, Instr.alloc, hzv, newVar, newRow, run_newObj_alloc, Sem.run_pure, Result.andThen_ok, hc]
      exact hK _ _ (h _ _ (Nat.le_refl _) (blk_new w t cs) (World.grownBy_alloc w _ none))
theorem z25 : (Tryz.prog.info? 41).map (fun i => i.zero.map (·.cells)) = some (some zer.toArray) := by kernel_rfl
theorem below_new {w w1 w2 : World} {g : Nat} (h1 : w.grownBy w1 none) (hg : w.heap.size ≤ g) (h2 : w1.grownBy w2 (some g)) : Below w.heap.size w w2 := by
  have b1 : Below w.heap.size w w1 := (Below.refl _ _).grown h1 (Nat.le_refl _) (fun k e => by cases e)
  exact b1.grown h2 h1.size (fun k e => by injection e with e; omega)
theorem enc_drop {f : Fo} {b : Bool} {ns : List ByteArray} {k : Nat} {q : Vt} (h : f.list[k]? = some q) : enc (f.drop k) b (ns.drop k) = ((if b then txB ((ns.drop k).headD ⟨#[]⟩) else []) ++ encV q) ++ enc (f.drop (k + 1)) b (ns.drop (k + 1)) := by
  rw [Fo.drop_at f k q h, enc_cons]
  congr 2
  simp
structure KInv (B : Nat) (W wr : World) (v vb : Value) (l lk : List Nat) (box : List Value) (f : Fo) (b : Bool) (ns : List ByteArray) (k : Nat) (tot : List Nat) : Prop where
  ap : Ap B W wr v vb lk
  blk : Blk wr W.heap.size 41 box
  ne : vb.ownBlock ≠ some W.heap.size
  wr : ∃ x, Wr l x lk ∧ tot = x ++ enc (f.drop k) b (ns.drop k)
theorem KInv.len {B : Nat} {W wr : World} {v vb : Value} {l lk : List Nat} {box : List Value} {f : Fo} {b : Bool} {ns : List ByteArray} {k : Nat} {tot : List Nat} (h : KInv B W wr v vb l lk box f b ns k tot) : lk.length + (enc (f.drop k) b (ns.drop k)).length ≤ l.length + tot.length := by
  obtain ⟨x, h1, h2⟩ := h.wr
  have := h1.up
  rw [h2, List.length_append]
  omega
theorem KInv.step {B : Nat} {W wr w1 w2 : World} {v vb v2 : Value} {l lk l2 : List Nat} {box : List Value} {f : Fo} {b : Bool} {ns : List ByteArray} {k : Nat} {tot : List Nat} {q : Vt} (h : KInv B W wr v vb l lk box f b ns k tot) (hq : f.list[k]? = some q)
    (g : Below wr.heap.size wr w1) (A : Ap B w1 w2 vb v2 l2) (w : Wr lk ((if b then txB ((ns.drop k).headD ⟨#[]⟩) else []) ++ encV q) l2) : KInv B W w2 v v2 l l2 box f b ns (k + 1) tot := by
  have hlt := h.blk.lt
  have hs := g.size
  refine ⟨h.ap.trans (Ap.after g A), A.blk (h.blk.below g hlt) h.ne, fun e => ?_, ?_⟩
  · rcases A.ob _ e with h1 | h1
    · exact h.ne h1
    · omega
  · obtain ⟨x, h1, h2⟩ := h.wr
    refine ⟨x ++ ((if b then txB ((ns.drop k).headD ⟨#[]⟩) else []) ++ encV q), h1.trans w, ?_⟩
    rw [h2, enc_drop hq]
    simp only [List.append_assoc]
def AvC (p : Vt) : Prop := ∀ (na : Option Addr) (nc : Nat) (ka : Option Addr) (kc : Nat) (v : Value) (l : List Nat) (B : Nat) (w0 W : World), Vl w0 p na nc ka kc → Below w0.heap.size w0 W → w0.heap.size ≤ B → B ≤ W.heap.size → Own W B v l → l.length + (encV p).length ≤ 700000000 →
  Calls Tryz.prog 138 #[v, .agg #[.int .i64 p.1.k, .int .i64 p.1.n, .int .i64 p.1.s, .string p.1.t, .slice na p.1.ns.length nc, .slice ka p.2.list.length kc]] W fun e w' => ∃ v' l', e = .returned v' ∧ Hid (Ap B W w' v v' l' ∧ Wr l (encV p) l')
set_option maxRecDepth 8000 in
set_option maxHeartbeats 1000000 in
theorem ak_list (p : Vt) (hk : p.1.k = 8) (hkl : p.2.list.length ≤ 200) (ih : ∀ q ∈ p.2.list, AvC q) (na : Option Addr) (nc : Nat) (ka : Option Addr) (kc : Nat) (v : Value) (l : List Nat) (B : Nat) (w0 W : World) (hv : Vl w0 p na nc ka kc) (hb : Below w0.heap.size w0 W) (hB0 : w0.heap.size ≤ B) (hB : B ≤ W.heap.size) (ho : Own W B v l) (hl : l.length + (uv p.2.list.length ++ enc p.2 false p.1.ns).length ≤ 700000000) :
    Calls Tryz.prog 163 #[v, .agg #[.int .i64 8, .int .i64 p.1.n, .int .i64 p.1.s, .string p.1.t, .slice na p.1.ns.length nc, .slice ka p.2.list.length kc]] W fun e w' => ∃ v' l', e = .returned v' ∧ Hid (Ap B W w' v v' l' ∧ Wr l (uv p.2.list.length ++ enc p.2 false p.1.ns) l') := by
  obtain ⟨W1, HW1⟩ : ∃ W1, Hid (W.alloc (.cells #[.int .i64 8, .int .i64 p.1.n, .int .i64 p.1.s, .string p.1.t, .slice na p.1.ns.length nc, .slice ka p.2.list.length kc] 41) = W1) := ⟨_, rfl⟩
  have HX : Hid (Blk W1 W.heap.size 41 [.int .i64 8, .int .i64 p.1.n, .int .i64 p.1.s, .string p.1.t, .slice na p.1.ns.length nc, .slice ka p.2.list.length kc]) := by rw [← HW1.out]; exact blk_new W 41 [.int .i64 8, .int .i64 p.1.n, .int .i64 p.1.s, .string p.1.t, .slice na p.1.ns.length nc, .slice ka p.2.list.length kc]
  have HO1 : Hid (Own W1 B v l) := by rw [← HW1.out]; exact ho.alloc _
  have hz1 : W1.heap.size = W.heap.size + 1 := by have := HW1.out; subst this; simp
  have HB1 : Hid (Below W.heap.size W W1) := by rw [← HW1.out]; exact (Below.refl _ _).alloc (Nat.le_refl _) _
  have HN : Hid (v.ownBlock ≠ some W.heap.size) := ho.ne
  have HO : Hid (Own W B v l) := ho
  have HV : Hid (Vl w0 p na nc ka kc) := hv
  have HI : Hid (∀ q ∈ p.2.list, AvC q) := ih
  have HBw : Hid (Below w0.heap.size w0 W) := hb
  have HT : Hid (l.length + (uv p.2.list.length ++ enc p.2 false p.1.ns).length ≤ 700000000) := hl
  have hll : l.length ≤ 700000000 := by omega
  have KU := apUv v l p.2.list.length (by omega) B W1 HO1.out (by omega) (by omega)
  have c5 : W1.cell? ⟨W.heap.size, 5, none⟩ = some (.slice ka p.2.list.length kc) := HX.out.cell 5
  clear ho hv ih hb hl
  go_enter Tryz.func163, Tryz.ntmps163
  go_wp2_with fail
  generalize hWW : World.alloc W _ = W9
  obtain rfl : W1 = W9 := by rw [← hWW, ← HW1.out]
  clear hWW HW1
  refine KU.mono ?_
  rintro e w1 ⟨v1, rfl, A1⟩
  have HI0 : Hid (KInv B W w1 v v1 l (l ++ uv p.2.list.length) [.int .i64 8, .int .i64 p.1.n, .int .i64 p.1.s, .string p.1.t, .slice na p.1.ns.length nc, .slice ka p.2.list.length kc] p.2 false p.1.ns 0 (uv p.2.list.length ++ enc p.2 false p.1.ns)) := by
    refine ⟨Ap.after HB1.out A1, A1.blk HX.out HN.out, fun e => ?_, ⟨uv p.2.list.length, Wr.all _ _, rfl⟩⟩
    rcases A1.ob _ e with h | h
    · exact HN.out h
    · omega
  have c5' : w1.cell? ⟨W.heap.size, 5, none⟩ = some (.slice ka p.2.list.length kc) := HI0.out.blk.cell 5
  clear A1 KU c5 HX HO1 HB1 HN hz1
  go_wp2
  clear c5'
  go_loopw [0, 16] (fun vb i wr => ∃ (k : Nat) (lk : List Nat), k ≤ p.2.list.length ∧ i = .int .i64 (k : Int) ∧ Hid (KInv B W wr v vb l lk [.int .i64 8, .int .i64 p.1.n, .int .i64 p.1.s, .string p.1.t, .slice na p.1.ns.length nc, .slice ka p.2.list.length kc] p.2 false p.1.ns k (uv p.2.list.length ++ enc p.2 false p.1.ns))) (fun _ i _ => p.2.list.length - (intOf i).toNat)
  case atStart => exact ⟨0, _, by omega, rfl, HI0.out⟩
  case round =>
    clear HI0
    obtain ⟨k, lk, hk0, rfl, HK⟩ := hrel
    by_cases hlt : k < p.2.list.length
    case neg =>
      have HF : Hid (Ap B W wr v u0 lk ∧ Wr l (uv p.2.list.length ++ enc p.2 false p.1.ns) lk) := by
        obtain ⟨x, h1, h2⟩ := HK.out.wr
        rw [Fo.drop_end _ _ (by omega)] at h2
        simp only [enc, List.append_nil] at h2
        rw [h2]
        exact ⟨HK.out.ap, h1⟩
      go_wp2
      go_ret
      exact ⟨_, lk, rfl, HF.out⟩
    have HBr : Hid (Below w0.heap.size w0 wr) := HK.out.ap.below HO.out HBw.out HBw.out.size hB0
    obtain ⟨q, b, o, na', nc', ka', kc', hq, rfl, hnd, hvl⟩ := HV.out.kid (Below.refl _ _) (k := k) hlt
    have HQq : Hid (p.2.list[k]? = some q) := hq
    have HQ : Hid (AvC q) := HI.out q (List.mem_of_getElem? hq)
    have HVq : Hid (Vl w0 q na' nc' ka' kc') := hvl
    obtain ⟨d0, d1, d2, d3, d4, d5⟩ := hnd.below HBr.out
    clear hnd hvl hq
    go_wp2_with (refine al_zero rfl 41 rfl zer z25 ?_)
    intro g6 w6 hg6 Bz6 gr6
    go_wp2_with (refine st_all rfl 41 (.tmp 6) (.tmp 20) rfl g6 41 zer (six q.1 na' nc' ka' q.2.list.length kc') rfl rfl Bz6 rfl s25 (six_one _ _ _ _ _ _) ?_)
    intro w7 B7 gr7
    have G7 : Hid (Below wr.heap.size wr w7) := below_new gr6 hg6 gr7
    have cb0 : w7.cell? ⟨W.heap.size, 0, none⟩ = some (.int .i64 8) := (HK.out.blk.below G7.out HK.out.blk.lt).cell 0
    have e0 : w7.cell? ⟨g6, 0, none⟩ = some (.int .i64 q.1.k) := B7.cell 0
    have e1 : w7.cell? ⟨g6, 1, none⟩ = some (.int .i64 q.1.n) := B7.cell 1
    have e2 : w7.cell? ⟨g6, 2, none⟩ = some (.int .i64 q.1.s) := B7.cell 2
    have e3 : w7.cell? ⟨g6, 3, none⟩ = some (.string q.1.t) := B7.cell 3
    have e4 : w7.cell? ⟨g6, 4, none⟩ = some (.slice na' q.1.ns.length nc') := B7.cell 4
    have e5 : w7.cell? ⟨g6, 5, none⟩ = some (.slice ka' q.2.list.length kc') := B7.cell 5
    clear Bz6 gr6 gr7 B7 d0 d1 d2 d3 d4 d5
    have KQ := HQ.out na' nc' ka' kc' u0 lk B w0 w7 HVq.out (HBr.out.trans (G7.out.mono HBr.out.size)) hB0 (by have := HK.out.ap.gr.size; have := G7.out.size; omega) (HK.out.ap.own.below G7.out) (by
      have h1 := HK.out.len
      have h2 := HT.out
      have h3 := congrArg List.length (enc_drop (b := false) (ns := p.1.ns) HQq.out)
      simp only [List.length_append] at h3 h1 h2
      omega)
    go_wp2_with fail
    refine KQ.mono ?_
    rintro e w9 ⟨v9, l9, rfl, H9⟩
    have HK2 : Hid (KInv B W w9 v v9 l l9 [.int .i64 8, .int .i64 p.1.n, .int .i64 p.1.s, .string p.1.t, .slice na p.1.ns.length nc, .slice (some ⟨b, o, none⟩) p.2.list.length kc] p.2 false p.1.ns (k + 1) (uv p.2.list.length ++ enc p.2 false p.1.ns)) := HK.out.step HQq.out G7.out H9.out.1 (by simpa using H9.out.2)
    clear KQ H9 HK e0 e1 e2 e3 e4 e5 cb0
    go_wp2
    go_roundw
    case rel => exact ⟨k + 1, l9, by omega, by go_num, HK2.out⟩
    case measure => simp [intOf]; omega
end Go.Proofs.YtpfiejmhnkcjbaaGreatDoor
namespace Go.Proofs.YtpfiejmhnkcjbaaGreatDoor
open Go.RowKit Lx
set_option linter.unusedVariables false
set_option linter.unusedSimpArgs false
theorem bgetL (s : ByteArray) (k : Nat) (h : k < s.size) : (bts s).getD k 0 = (s[k]'h).toNat := by
  unfold bts
  rw [List.getD_eq_getElem?_getD, List.getElem?_map]
  have : s.data.toList[k]? = some (s[k]'h) := by
    rw [Array.getElem?_toList, Array.getElem?_eq_getElem (by exact h)]
    rfl
  rw [this]
  rfl
theorem idxL (s : ByteArray) (k : Nat) (h : k < s.size) (w : World) : (Instr.index 9 (.string s) (.int .i64 (k : Int))).run Tryz.prog w = .ok (.int .u8 (((bts s).getD k 0 : Nat) : Int)) w := by
  have e3 : s[k]? = some (s[k]'h) := by simp [h]
  rw [bgetL s k h]
  simp [Instr.index, asIntOf, run_underlying Tryz.underlying9, e3]
theorem oct_getD (s : ByteArray) (k : Nat) : (bts s).getD k 0 < 256 := by
  rw [List.getD_eq_getElem?_getD]
  cases h : (bts s)[k]? with
  | none => simp
  | some x => exact bts_oct s x (List.mem_of_getElem? h)
theorem bts_midL (s : ByteArray) (i n : Nat) (h : i + n ≤ s.size) : bts (s.extract i (i + n)) = ((bts s).drop i).take n := by
  unfold bts
  rw [ByteArray.data_extract, Array.toList_extract, List.extract_eq_take_drop, List.map_take, List.map_drop, show i + n - i = n by omega]
theorem bts_dropL (s : ByteArray) (i : Nat) (h : i < s.size) : (bts s).drop i = (bts s).getD i 0 :: (bts s).drop (i + 1) := by
  rw [List.drop_eq_getElem_cons (by rw [bts_len]; exact h)]
  congr 1
  rw [List.getD_eq_getElem?_getD, List.getElem?_eq_getElem (by rw [bts_len]; exact h)]
  rfl
end Go.Proofs.YtpfiejmhnkcjbaaGreatDoor
namespace Go.Proofs.YtpfiejmhnkcjbaaGreatDoor
open Go.RowKit Lx
set_option linter.unusedVariables false
set_option linter.unusedSimpArgs false
/-! ### signs -/
end Go.Proofs.YtpfiejmhnkcjbaaGreatDoor
namespace Go.Proofs.YtpfiejmhnkcjbaaGreatDoor
open Go.RowKit Lx
set_option linter.unusedVariables false
set_option linter.unusedSimpArgs false
end Go.Proofs.YtpfiejmhnkcjbaaGreatDoor
namespace Go.Proofs.YtpfiejmhnkcjbaaGreatDoor
open Go.RowKit Lx
set_option linter.unusedVariables false
set_option linter.unusedSimpArgs false
theorem sml_oct {L : List Nat} (h : ∀ x ∈ L, x < 256) : ∀ x ∈ sml L, x < 256 := fun x hx => by
  obtain ⟨y, hy, rfl⟩ := List.mem_map.1 hx
  have := h y hy
  show (if 65 ≤ y ∧ y ≤ 90 then y + 32 else y) < 256
  split <;> omega
end Go.Proofs.YtpfiejmhnkcjbaaGreatDoor
namespace Go.Proofs.YtpfiejmhnkcjbaaGreatDoor
open Go.RowKit Lx
set_option linter.unusedVariables false
set_option linter.unusedSimpArgs false
theorem tw_at {f : Nat → Bool} : ∀ (r : List Nat) (k : Nat), k ≤ (r.takeWhile f).length → (k < (r.takeWhile f).length ↔ ∃ c, r[k]? = some c ∧ f c = true)
  | [], k, h => by simp
  | c :: r, k, h => by
    rw [List.takeWhile_cons] at h ⊢
    split at h
    · rename_i hc
      rw [if_pos hc]
      cases k with
      | zero => simp [hc]
      | succ k =>
        simp only [List.length_cons] at h ⊢
        rw [List.getElem?_cons_succ, ← tw_at r k (by omega)]
        omega
    · rename_i hc
      rw [if_neg hc]
      simp only [List.length_nil] at h
      obtain rfl : k = 0 := by omega
      simp [hc]
theorem dw_drop {f : Nat → Bool} (r : List Nat) : r.dropWhile f = r.drop (r.takeWhile f).length := by
  have h := List.takeWhile_append_dropWhile (p := f) (l := r)
  conv => rhs; rw [← h]
  rw [List.takeWhile_append_dropWhile]
  conv => rhs; arg 2; rw [← h]
  rw [List.drop_left]
/-- A number's end by places. -/
theorem nuE_at (r : List Nat) : (r[(r.takeWhile isDg).length]? = some 46 ∧ (∃ d, r[(r.takeWhile isDg).length + 1]? = some d ∧ isDg d = true) ∧ nuE r = ((r.takeWhile isDg).length + 1 + ((r.drop ((r.takeWhile isDg).length + 1)).takeWhile isDg).length, true)) ∨
    (¬ (r[(r.takeWhile isDg).length]? = some 46 ∧ ∃ d, r[(r.takeWhile isDg).length + 1]? = some d ∧ isDg d = true) ∧ nuE r = ((r.takeWhile isDg).length, false)) := by
  have h := dw_drop (f := isDg) r
  unfold nuE
  obtain ⟨A, hA⟩ : ∃ A, (r.takeWhile isDg).length = A := ⟨_, rfl⟩
  rw [hA] at h ⊢
  have e0 : r[A]? = (r.dropWhile isDg)[0]? := by rw [h, List.getElem?_drop, Nat.add_zero]
  have e1 : r[A + 1]? = (r.dropWhile isDg)[1]? := by rw [h, List.getElem?_drop]
  rw [e0, e1]
  have e2 : r.drop (A + 1) = (r.dropWhile isDg).drop 1 := by rw [h, List.drop_drop]
  rw [e2]
  cases hd : r.dropWhile isDg with
  | nil => right; simp
  | cons p q =>
    cases q with
    | nil => right; simp
    | cons d q =>
      by_cases hc : p = 46 ∧ isDg d = true
      · left
        refine ⟨by simp [hc.1], ⟨d, rfl, hc.2⟩, ?_⟩
        simp only [if_pos hc]
        rfl
      · right
        refine ⟨fun hh => hc ?_, by simp only [if_neg hc]⟩
        obtain ⟨h1, d', h2, h3⟩ := hh
        simp only [List.getElem?_cons_zero, Option.some.injEq] at h1
        simp only [List.getElem?_cons_succ, List.getElem?_cons_zero, Option.some.injEq] at h2
        subst h2
        exact ⟨h1, h3⟩
theorem lt_some {L : List Nat} {i : Nat} (h : i < L.length) : L[i]? = some (L.getD i 0) := by rw [List.getD_eq_getElem?_getD, List.getElem?_eq_getElem h]; rfl
end Go.Proofs.YtpfiejmhnkcjbaaGreatDoor
