/-
   ·  ·  ·  · 
-/
import Derived.Test.YtpfiejmhnkcjbaaGreatDoorHG6x
import Derived.Test.YtpfiejmhnkcjbaaGreatDoorHG0x
import Derived.Test.YtpfiejmhnkcjbaaGreatDoorHG1x
import Derived.Laws.BytesArg
import Derived.Laws.IdiomStrings
namespace Go.Proofs.YtpfiejmhnkcjbaaGreatDoor
set_option maxHeartbeats 1000000
set_option maxRecDepth 8000
open Go.RowKit Math
set_option linter.unusedVariables false
theorem al_zero {P : Program} {ops : Array Oper} {rest : List Oper} {o : Oper} {a : Act} {w : World} {Q : Exit -> Act -> World -> Prop} (hg : o.guard = none) (t : TypeId) (ho : o.op = .alloc t) (cs : List Value) (hz : (P.info? t).map (fun i => i.zero.map (·.cells)) = some (some cs.toArray))
 (h : ∀ g w', w.heap.size <= g -> Blk w' g t cs -> w.grownBy w' none -> wpList P ops Q rest (a.put o.dst (.pointer (some ⟨g, 0, none⟩))) w') : wpList P ops Q (o :: rest) a w := by
 refine wpList_plain hg fun K hK => ?_
 unfold Oper.wp execOp
 cases hi : P.info? t with
 | none => simp [hi] at hz
 | some i =>
   cases hq : i.zero with
   | none => simp [hi, hq] at hz
   | some z =>
     have hc : z.cells = cs.toArray := by simpa [hi, hq] using hz
     have hzv : (zeroValue t).run P w = .ok z w := by simp [zeroValue, typeInfo, hi, hq]
     simp only [ho, Sem.run_bind, Instr.alloc, hzv, newVar, newRow, run_newObj_alloc, Sem.run_pure, Result.andThen_ok, hc]
     exact hK _ _ (h _ _ (Nat.le_refl _) (blk_new w t cs) (World.grownBy_alloc w _ none))
theorem z25 : (Tryz.prog.info? 41).map (fun i => i.zero.map (·.cells)) = some (some zer.toArray) := by kernel_rfl
theorem below_new {w w1 w2 : World} {g : Nat} (h1 : w.grownBy w1 none) (hg : w.heap.size <= g) (h2 : w1.grownBy w2 (some g)) : Below w.heap.size w w2 := by
 have b1 : Below w.heap.size w w1 := (Below.refl _ _).grown h1 (Nat.le_refl _) (fun k e => by cases e)
 exact b1.grown h2 h1.size (fun k e => by injection e with e; omega)
theorem enc_drop {f : Fo} {b : Bool} {ns : List ByteArray} {k : Nat} {q : Vt} (h : f.list[k]? = some q) : enc (f.drop k) b (ns.drop k) = ((if b then txB ((ns.drop k).headD ⟨#[]⟩) else []) ++ encV q) ++ enc (f.drop (k + 1)) b (ns.drop (k + 1)) := by
 rw [Fo.drop_at f k q h, enc_cons]
 congr 2
 simp
structure KInv (B : Nat) (W wr : World) (v vb : Value) (l lk : List Nat) (box : List Value) (f : Fo) (b : Bool) (ns : List ByteArray) (k : Nat) (tot : List Nat) : Prop where
 ap : Ap B W wr v vb lk
 blk : Blk wr W.heap.size 41 box
 ne : vb.ownBlock ≠ some W.heap.size
 wr : ∃ x, Wr l x lk /\ tot = x ++ enc (f.drop k) b (ns.drop k)
theorem KInv.len {B : Nat} {W wr : World} {v vb : Value} {l lk : List Nat} {box : List Value} {f : Fo} {b : Bool} {ns : List ByteArray} {k : Nat} {tot : List Nat} (h : KInv B W wr v vb l lk box f b ns k tot) : lk.length + (enc (f.drop k) b (ns.drop k)).length <= l.length + tot.length := by
 obtain ⟨x, h1, h2⟩ := h.wr
 have := h1.up
 rw [h2, List.length_append]
 omega
theorem KInv.step {B : Nat} {W wr w1 w2 : World} {v vb v2 : Value} {l lk l2 : List Nat} {box : List Value} {f : Fo} {b : Bool} {ns : List ByteArray} {k : Nat} {tot : List Nat} {q : Vt} (h : KInv B W wr v vb l lk box f b ns k tot) (hq : f.list[k]? = some q)
 (g : Below wr.heap.size wr w1) (A : Ap B w1 w2 vb v2 l2) (w : Wr lk ((if b then txB ((ns.drop k).headD ⟨#[]⟩) else []) ++ encV q) l2) : KInv B W w2 v v2 l l2 box f b ns (k + 1) tot := by
 have hlt := h.blk.lt
 have hs := g.size
 refine ⟨h.ap.trans (Ap.after g A), A.blk (h.blk.below g hlt) h.ne, fun e => ?_, ?_⟩
 . rcases A.ob _ e with h1 | h1
   . exact h.ne h1
   . omega
 . obtain ⟨x, h1, h2⟩ := h.wr
   refine ⟨x ++ ((if b then txB ((ns.drop k).headD ⟨#[]⟩) else []) ++ encV q), h1.trans w, ?_⟩
   rw [h2, enc_drop hq]
   simp only [List.append_assoc]
def AvC (p : Vt) : Prop := ∀ (na : Option Addr) (nc : Nat) (ka : Option Addr) (kc : Nat) (v : Value) (l : List Nat) (B : Nat) (w0 W : World), Vl w0 p na nc ka kc -> Below w0.heap.size w0 W -> w0.heap.size <= B -> B <= W.heap.size -> Own W B v l -> l.length + (encV p).length <= 700000000 ->
 Calls Tryz.prog 138 #[v, .agg #[.int .i64 p.1.k, .int .i64 p.1.n, .int .i64 p.1.s, .string p.1.t, .slice na p.1.ns.length nc, .slice ka p.2.list.length kc]] W fun e w' => ∃ v' l', e = .returned v' /\ Hid (Ap B W w' v v' l' /\ Wr l (encV p) l')
theorem ak_list (p : Vt) (hk : p.1.k = 8) (hkl : p.2.list.length <= 200) (ih : ∀ q ∈ p.2.list, AvC q) (na : Option Addr) (nc : Nat) (ka : Option Addr) (kc : Nat) (v : Value) (l : List Nat) (B : Nat) (w0 W : World) (hv : Vl w0 p na nc ka kc) (hb : Below w0.heap.size w0 W) (hB0 : w0.heap.size <= B) (hB : B <= W.heap.size) (ho : Own W B v l) (hl : l.length + (uv p.2.list.length ++ enc p.2 false p.1.ns).length <= 700000000) :
 Calls Tryz.prog 163 #[v, .agg #[.int .i64 8, .int .i64 p.1.n, .int .i64 p.1.s, .string p.1.t, .slice na p.1.ns.length nc, .slice ka p.2.list.length kc]] W fun e w' => ∃ v' l', e = .returned v' /\ Hid (Ap B W w' v v' l' /\ Wr l (uv p.2.list.length ++ enc p.2 false p.1.ns) l') := by
 obtain ⟨W1, HW1⟩ : ∃ W1, Hid (W.alloc (.cells #[.int .i64 8, .int .i64 p.1.n, .int .i64 p.1.s, .string p.1.t, .slice na p.1.ns.length nc, .slice ka p.2.list.length kc] 41) = W1) := ⟨_, rfl⟩
 have HX : Hid (Blk W1 W.heap.size 41 [.int .i64 8, .int .i64 p.1.n, .int .i64 p.1.s, .string p.1.t, .slice na p.1.ns.length nc, .slice ka p.2.list.length kc]) := by rw [<- HW1.out]; exact blk_new W 41 [.int .i64 8, .int .i64 p.1.n, .int .i64 p.1.s, .string p.1.t, .slice na p.1.ns.length nc, .slice ka p.2.list.length kc]
 have HO1 : Hid (Own W1 B v l) := by rw [<- HW1.out]; exact ho.alloc _
 have hz1 : W1.heap.size = W.heap.size + 1 := by have := HW1.out; subst this; simp
 have HB1 : Hid (Below W.heap.size W W1) := by rw [<- HW1.out]; exact (Below.refl _ _).alloc (Nat.le_refl _) _
 have HN : Hid (v.ownBlock ≠ some W.heap.size) := ho.ne
 have HO : Hid (Own W B v l) := ho
 have HV : Hid (Vl w0 p na nc ka kc) := hv
 have HI : Hid (∀ q ∈ p.2.list, AvC q) := ih
 have HBw : Hid (Below w0.heap.size w0 W) := hb
 have HT : Hid (l.length + (uv p.2.list.length ++ enc p.2 false p.1.ns).length <= 700000000) := hl
 have hll : l.length <= 700000000 := by omega
 have KU := apUv v l p.2.list.length (by omega) B W1 HO1.out (by omega) (by omega)
 have c5 : W1.cell? ⟨W.heap.size, 5, none⟩ = some (.slice ka p.2.list.length kc) := HX.out.cell 5
 clear ho hv ih hb hl
 go_enter Tryz.func163, Tryz.ntmps163
 go_wp2_with fail
 generalize hWW : World.alloc W _ = W9
 obtain rfl : W1 = W9 := by rw [<- hWW, <- HW1.out]
 clear hWW HW1
 refine KU.mono ?_
 rintro e w1 ⟨v1, rfl, A1⟩
 have HI0 : Hid (KInv B W w1 v v1 l (l ++ uv p.2.list.length) [.int .i64 8, .int .i64 p.1.n, .int .i64 p.1.s, .string p.1.t, .slice na p.1.ns.length nc, .slice ka p.2.list.length kc] p.2 false p.1.ns 0 (uv p.2.list.length ++ enc p.2 false p.1.ns)) := by
  refine ⟨Ap.after HB1.out A1, A1.blk HX.out HN.out, fun e => ?_, ⟨uv p.2.list.length, Wr.all _ _, rfl⟩⟩
  rcases A1.ob _ e with h | h
  . exact HN.out h
  . omega
 have c5' : w1.cell? ⟨W.heap.size, 5, none⟩ = some (.slice ka p.2.list.length kc) := HI0.out.blk.cell 5
 clear A1 KU c5 HX HO1 HB1 HN hz1
 go_wp2
 clear c5'
 go_loopw [0, 16] (fun vb i wr => ∃ (k : Nat) (lk : List Nat), k <= p.2.list.length /\ i = .int .i64 (k : Int) /\ Hid (KInv B W wr v vb l lk [.int .i64 8, .int .i64 p.1.n, .int .i64 p.1.s, .string p.1.t, .slice na p.1.ns.length nc, .slice ka p.2.list.length kc] p.2 false p.1.ns k (uv p.2.list.length ++ enc p.2 false p.1.ns))) (fun _ i _ => p.2.list.length - (intOf i).toNat)
 case atStart => exact ⟨0, _, by omega, rfl, HI0.out⟩
 case round =>
  clear HI0
  obtain ⟨k, lk, hk0, rfl, HK⟩ := hrel
  by_cases hlt : k < p.2.list.length
  case neg =>
   have HF : Hid (Ap B W wr v u0 lk /\ Wr l (uv p.2.list.length ++ enc p.2 false p.1.ns) lk) := by
    obtain ⟨x, h1, h2⟩ := HK.out.wr
    rw [Fo.drop_end _ _ (by omega)] at h2
    simp only [enc, List.append_nil] at h2
    rw [h2]
    exact ⟨HK.out.ap, h1⟩
   go_wp2
   go_ret
   exact ⟨_, lk, rfl, HF.out⟩
  have HBr : Hid (Below w0.heap.size w0 wr) := HK.out.ap.below HO.out HBw.out HBw.out.size hB0
  obtain ⟨q, b, o, na', nc', ka', kc', hq, rfl, hnd, hvl⟩ := HV.out.kid (Below.refl _ _) (k := k) hlt
  have HQq : Hid (p.2.list[k]? = some q) := hq
  have HQ : Hid (AvC q) := HI.out q (List.mem_of_getElem? hq)
  have HVq : Hid (Vl w0 q na' nc' ka' kc') := hvl
  obtain ⟨d0, d1, d2, d3, d4, d5⟩ := hnd.below HBr.out
  clear hnd hvl hq
  go_wp2_with (refine al_zero rfl 41 rfl zer z25 ?_)
  intro g6 w6 hg6 Bz6 gr6
  go_wp2_with (refine st_all rfl 41 (.tmp 6) (.tmp 20) rfl g6 41 zer (six q.1 na' nc' ka' q.2.list.length kc') rfl rfl Bz6 rfl s25 (six_one _ _ _ _ _ _) ?_)
  intro w7 B7 gr7
  have G7 : Hid (Below wr.heap.size wr w7) := below_new gr6 hg6 gr7
  have cb0 : w7.cell? ⟨W.heap.size, 0, none⟩ = some (.int .i64 8) := (HK.out.blk.below G7.out HK.out.blk.lt).cell 0
  have e0 : w7.cell? ⟨g6, 0, none⟩ = some (.int .i64 q.1.k) := B7.cell 0
  have e1 : w7.cell? ⟨g6, 1, none⟩ = some (.int .i64 q.1.n) := B7.cell 1
  have e2 : w7.cell? ⟨g6, 2, none⟩ = some (.int .i64 q.1.s) := B7.cell 2
  have e3 : w7.cell? ⟨g6, 3, none⟩ = some (.string q.1.t) := B7.cell 3
  have e4 : w7.cell? ⟨g6, 4, none⟩ = some (.slice na' q.1.ns.length nc') := B7.cell 4
  have e5 : w7.cell? ⟨g6, 5, none⟩ = some (.slice ka' q.2.list.length kc') := B7.cell 5
  clear Bz6 gr6 gr7 B7 d0 d1 d2 d3 d4 d5
  have KQ := HQ.out na' nc' ka' kc' u0 lk B w0 w7 HVq.out (HBr.out.trans (G7.out.mono HBr.out.size)) hB0 (by have := HK.out.ap.gr.size; have := G7.out.size; omega) (HK.out.ap.own.below G7.out) (by
   have h1 := HK.out.len
   have h2 := HT.out
   have h3 := congrArg List.length (enc_drop (b := false) (ns := p.1.ns) HQq.out)
   simp only [List.length_append] at h3 h1 h2
   omega)
  go_wp2_with fail
  refine KQ.mono ?_
  rintro e w9 ⟨v9, l9, rfl, H9⟩
  have HK2 : Hid (KInv B W w9 v v9 l l9 [.int .i64 8, .int .i64 p.1.n, .int .i64 p.1.s, .string p.1.t, .slice na p.1.ns.length nc, .slice (some ⟨b, o, none⟩) p.2.list.length kc] p.2 false p.1.ns (k + 1) (uv p.2.list.length ++ enc p.2 false p.1.ns)) := HK.out.step HQq.out G7.out H9.out.1 (by simpa using H9.out.2)
  clear KQ H9 HK e0 e1 e2 e3 e4 e5 cb0
  go_wp2
  go_roundw
  case rel => exact ⟨k + 1, l9, by omega, by go_num, HK2.out⟩
  case measure => simp [intOf]; omega
end Go.Proofs.YtpfiejmhnkcjbaaGreatDoor
namespace Go.Proofs.YtpfiejmhnkcjbaaGreatDoor
open Go.RowKit Lx
set_option linter.unusedVariables false
set_option linter.unusedSimpArgs false
theorem bgetL (s : ByteArray) (k : Nat) (h : k < s.size) : (bts s).getD k 0 = (s[k]'h).toNat := by
 unfold bts
 rw [List.getD_eq_getElem?_getD, List.getElem?_map]
 have : s.data.toList[k]? = some (s[k]'h) := by
  rw [Array.getElem?_toList, Array.getElem?_eq_getElem (by exact h)]
  rfl
 rw [this]
 rfl
theorem idxL (s : ByteArray) (k : Nat) (h : k < s.size) (w : World) : (Instr.index 9 (.string s) (.int .i64 (k : Int))).run Tryz.prog w = .ok (.int .u8 (((bts s).getD k 0 : Nat) : Int)) w := by
 have e3 : s[k]? = some (s[k]'h) := by simp [h]
 rw [bgetL s k h]
 simp [Instr.index, asIntOf, run_underlying Tryz.underlying9, e3]
theorem oct_getD (s : ByteArray) (k : Nat) : (bts s).getD k 0 < 256 := by
 rw [List.getD_eq_getElem?_getD]
 cases h : (bts s)[k]? with
 | none => simp
 | some x => exact bts_oct s x (List.mem_of_getElem? h)
theorem bts_midL (s : ByteArray) (i n : Nat) (h : i + n <= s.size) : bts (s.extract i (i + n)) = ((bts s).drop i).take n := by
 unfold bts
 rw [ByteArray.data_extract, Array.toList_extract, List.extract_eq_take_drop, List.map_take, List.map_drop, show i + n - i = n by omega]
theorem bts_dropL (s : ByteArray) (i : Nat) (h : i < s.size) : (bts s).drop i = (bts s).getD i 0 :: (bts s).drop (i + 1) := by
 rw [List.drop_eq_getElem_cons (by rw [bts_len]; exact h)]
 congr 1
 rw [List.getD_eq_getElem?_getD, List.getElem?_eq_getElem (by rw [bts_len]; exact h)]
 rfl
theorem letter_any (c : Nat) (w : World) : Calls Tryz.prog 20 #[.int .u8 (c : Int)] w fun e w' => e = .returned (.bool (isLt c)) /\ w' = w := by
 have hc : (c < 65) ∨ (65 <= c /\ c <= 90) ∨ (90 < c /\ c < 97 /\ c ≠ 95) ∨ c = 95 ∨ (97 <= c /\ c <= 122) ∨ 122 < c := by omega
 rcases hc with h | ⟨h, h2⟩ | ⟨h, h2, h3⟩ | h | ⟨h, h2⟩ | h
 . have e : isLt c = false := by simp [isLt]; omega
   have a1 : ¬ (97 : Int) <= (c : Int) := by omega
   have a2 : ¬ (65 : Int) <= (c : Int) := by omega
   have a3 : ¬ (c : Int) = 95 := by omega
   rw [e]
   clear e h
   go_enter Tryz.func20, Tryz.ntmps20
   go_wp2
   go_ret
   simp_all
 . have e : isLt c = true := by simp [isLt]; omega
   have a1 : ¬ (97 : Int) <= (c : Int) := by omega
   have a2 : (65 : Int) <= (c : Int) := by omega
   have a3 : (c : Int) <= 90 := by omega
   rw [e]
   clear e h h2
   go_enter Tryz.func20, Tryz.ntmps20
   go_wp2
   go_ret
   simp_all
 . have e : isLt c = false := by simp [isLt]; omega
   have a1 : ¬ (97 : Int) <= (c : Int) := by omega
   have a2 : (65 : Int) <= (c : Int) := by omega
   have a3 : ¬ (c : Int) <= 90 := by omega
   have a4 : ¬ (c : Int) = 95 := by omega
   rw [e]
   clear e h h2 h3
   go_enter Tryz.func20, Tryz.ntmps20
   go_wp2
   go_ret
   simp_all
 . subst h
   go_enter Tryz.func20, Tryz.ntmps20
   go_wp2
   go_ret
   exact ⟨rfl, rfl⟩
 . have e : isLt c = true := by simp [isLt]; omega
   have a1 : (97 : Int) <= (c : Int) := by omega
   have a2 : (c : Int) <= 122 := by omega
   rw [e]
   clear e h h2
   go_enter Tryz.func20, Tryz.ntmps20
   go_wp2
   go_ret
   simp_all
 . have e : isLt c = false := by simp [isLt]; omega
   have a1 : (97 : Int) <= (c : Int) := by omega
   have a2 : ¬ (c : Int) <= 122 := by omega
   have a3 : (65 : Int) <= (c : Int) := by omega
   have a4 : ¬ (c : Int) <= 90 := by omega
   have a5 : ¬ (c : Int) = 95 := by omega
   rw [e]
   clear e h
   go_enter Tryz.func20, Tryz.ntmps20
   go_wp2
   go_ret
   simp_all
theorem digit_any (c : Nat) (w : World) : Calls Tryz.prog 21 #[.int .u8 (c : Int)] w fun e w' => e = .returned (.bool (isDg c)) /\ w' = w := by
 have hc : (c < 48) ∨ (48 <= c /\ c <= 57) ∨ (57 < c) := by omega
 rcases hc with h | ⟨h, h2⟩ | h
 . have e : isDg c = false := by simp [isDg]; omega
   have a1 : ¬ (48 : Int) <= (c : Int) := by omega
   rw [e]
   clear e h
   go_enter Tryz.func21, Tryz.ntmps21
   go_wp2
   go_ret
   simp_all
 . have e : isDg c = true := by simp [isDg]; omega
   have a1 : (48 : Int) <= (c : Int) := by omega
   have a2 : (c : Int) <= 57 := by omega
   rw [e]
   clear e h h2
   go_enter Tryz.func21, Tryz.ntmps21
   go_wp2
   go_ret
   simp_all
 . have e : isDg c = false := by simp [isDg]; omega
   have a1 : (48 : Int) <= (c : Int) := by omega
   have a2 : ¬ (c : Int) <= 57 := by omega
   rw [e]
   clear e h
   go_enter Tryz.func21, Tryz.ntmps21
   go_wp2
   go_ret
   simp_all
end Go.Proofs.YtpfiejmhnkcjbaaGreatDoor
namespace Go.Proofs.YtpfiejmhnkcjbaaGreatDoor
set_option maxHeartbeats 1000000
set_option maxRecDepth 8000
open Go.RowKit Lx
set_option linter.unusedVariables false
set_option linter.unusedSimpArgs false
theorem bts_inj {a b : ByteArray} (h : bts a = bts b) : a = b := by rw [<- ofB_bts a, <- ofB_bts b, h]
theorem words_oct : ∀ l ∈ words, bts (ofB l) = l := by
 intro l hl
 refine bts_ofB l ?_
 have : ∀ l ∈ words, ∀ x ∈ l, x < 256 := by decide
 exact this l hl
theorem signs_oct : ∀ l ∈ signs, bts (ofB l) = l := by
 intro l hl
 refine bts_ofB l ?_
 have : ∀ l ∈ signs, ∀ x ∈ l, x < 256 := by decide
 exact this l hl
theorem toL_eq {a b : ByteArray} : (a.toList == b.toList) = decide (a = b) := by
 by_cases h : a = b
 . subst h; simp
 . have : a.toList ≠ b.toList := fun e => h (by
    rw [ByteArray.toList_eq, ByteArray.toList_eq] at e
    exact ByteArray.ext (Array.ext' e))
   rw [decide_eq_false h]
   exact beq_eq_false_iff_ne.2 this
theorem isW_iff (s : ByteArray) : isW (bts s) = true ↔ ∃ i, i < words.length /\ ofB (words.getD i []) = s := by
 unfold isW
 rw [List.contains_iff_mem]
 constructor
 . intro h
   obtain ⟨i, hi⟩ := List.getElem?_of_mem h
   have hl := (List.getElem?_eq_some_iff.1 hi).1
   refine ⟨i, hl, ?_⟩
   rw [List.getD_eq_getElem?_getD, hi, Option.getD_some, ofB_bts]
 . rintro ⟨i, hl, rfl⟩
   rw [List.getD_eq_getElem?_getD, List.getElem?_eq_getElem hl, Option.getD_some, words_oct _ (List.getElem_mem hl)]
   exact List.getElem_mem hl
def lits (L : List (List Nat)) : List Value := L.map fun l => .string (ofB l)
theorem EW : (#[Value.string ⟨#[115, 101, 108, 101, 99, 116]⟩, Value.string ⟨#[118, 97, 108, 117, 101]⟩, Value.string ⟨#[102, 114, 111, 109]⟩, Value.string ⟨#[97, 115]⟩, Value.string ⟨#[119, 104, 101, 114, 101]⟩, Value.string ⟨#[111, 114, 100, 101, 114]⟩, Value.string ⟨#[98, 121]⟩, Value.string ⟨#[100, 101, 115, 99]⟩, Value.string ⟨#[108, 105, 109, 105, 116]⟩, Value.string ⟨#[105, 110, 115, 101, 114, 116]⟩, Value.string ⟨#[105, 110, 116, 111]⟩, Value.string ⟨#[117, 112, 100, 97, 116, 101]⟩, Value.string ⟨#[115, 101, 116]⟩, Value.string ⟨#[100, 101, 108, 101, 116, 101]⟩, Value.string ⟨#[99, 114, 101, 97, 116, 101]⟩, Value.string ⟨#[100, 114, 111, 112]⟩, Value.string ⟨#[116, 97, 98, 108, 101]⟩, Value.string ⟨#[105, 110, 100, 101, 120]⟩, Value.string ⟨#[111, 110]⟩, Value.string ⟨#[97, 110, 100]⟩, Value.string ⟨#[111, 114]⟩, Value.string ⟨#[110, 111, 116]⟩, Value.string ⟨#[105, 115]⟩, Value.string ⟨#[110, 117, 108, 108]⟩, Value.string ⟨#[109, 105, 115, 115, 105, 110, 103]⟩, Value.string ⟨#[116, 114, 117, 101]⟩, Value.string ⟨#[102, 97, 108, 115, 101]⟩, Value.string ⟨#[104, 105, 115, 116, 111, 114, 121]⟩, Value.string ⟨#[109, 101, 116, 97]⟩] : Array Value) = (lits words).toArray := by kernel_rfl
theorem ES : (#[Value.string ⟨#[60, 61]⟩, Value.string ⟨#[62, 61]⟩, Value.string ⟨#[33, 61]⟩, Value.string ⟨#[60, 62]⟩, Value.string ⟨#[124, 124]⟩, Value.string ⟨#[60]⟩, Value.string ⟨#[62]⟩, Value.string ⟨#[61]⟩, Value.string ⟨#[43]⟩, Value.string ⟨#[45]⟩, Value.string ⟨#[42]⟩, Value.string ⟨#[40]⟩, Value.string ⟨#[41]⟩, Value.string ⟨#[91]⟩, Value.string ⟨#[93]⟩, Value.string ⟨#[123]⟩, Value.string ⟨#[125]⟩, Value.string ⟨#[44]⟩, Value.string ⟨#[46]⟩, Value.string ⟨#[58]⟩, Value.string ⟨#[59]⟩] : Array Value) = (lits signs).toArray := by kernel_rfl
theorem lits_at {L : List (List Nat)} {i : Nat} (h : i < L.length) : (lits L)[i]? = some (.string (ofB (L.getD i []))) := by
 unfold lits
 rw [List.getElem?_map, List.getD_eq_getElem?_getD, List.getElem?_eq_getElem h]
 rfl
theorem isword_any (s : ByteArray) (w : World) : Calls Tryz.prog 14 #[.string s] w fun e w' => e = .returned (.bool (isW (bts s))) /\ Hid (Below w.heap.size w w') := by
 have HC : Hid (Below w.heap.size w (w.alloc (.cells (lits words).toArray 9))) := (Below.refl _ _).alloc (Nat.le_refl _) _
 have HB : Hid ((w.alloc (.cells (lits words).toArray 9)).heap[w.heap.size]? = some (.cells (lits words).toArray 9 (0, 0))) := heap_alloc_new w _
 obtain ⟨V, HV⟩ : ∃ V, Hid (isW (bts s) = V) := ⟨_, rfl⟩
 rw [HV.out]
 go_enter Tryz.func14, Tryz.ntmps14
 go_wp2_with fail
 rw [EW]
 obtain ⟨b, hb⟩ : ∃ b, w.heap.size = b := ⟨_, rfl⟩
 rw [hb] at HB ⊢
 obtain ⟨w1, hw1⟩ : ∃ w1, w.alloc (.cells (lits words).toArray 9) = w1 := ⟨_, rfl⟩
 rw [hw1] at HB HC ⊢
 have HC : Hid (Below w.heap.size w w1) := HC
 clear hw1
 have HD : Hid (∀ i, i < 29 -> w1.cell? ⟨b, i, none⟩ = some (.string (ofB (words.getD i [])))) := fun i hi => by
  rw [cell_of_row w1 b i _ 9 (0, 0) HB.out]
  have := lits_at (L := words) (i := i) hi
  simpa using this
 have HW : Hid (words.length = 29) := rfl
 clear HB
 clear hb
 go_loopw [4] (fun iv wr => ∃ i : Nat, i <= 29 /\ iv = .int .i64 (i : Int) /\ wr = w1 /\ Hid (∀ j, j < i -> ofB (words.getD j []) ≠ s)) (fun iv _ => 29 - (intOf iv).toNat)
 case atStart => exact ⟨0, by omega, rfl, rfl, fun j h => by omega⟩
 case round =>
  obtain ⟨i, hi, rfl, rfl, HJ⟩ := hrel
  by_cases hlt : i < 29
  . have c1 := HD.out i hlt
    obtain ⟨x, hx⟩ : ∃ x, ofB (words.getD i []) = x := ⟨_, rfl⟩
    rw [hx] at c1
    have hlt' : (i : Int) < 29 := by omega
    have hx1 : ¬ ((i : Int) < 0) := by omega
    have hx2 : ¬ ((29 : Int) <= (i : Int)) := by omega
    by_cases he : x = s
    . have heq : (x.toList == s.toList) = true := by rw [toL_eq]; simpa using he
      have HT : Hid (V = true) := by
       show _ = _
       rw [<- HV.out]
       exact (isW_iff s).2 ⟨i, by rw [HW.out]; exact hlt, hx.trans he⟩
      clear he hx HJ HD
      go_wp2
      go_ret
      rw [HT.out]
      exact ⟨by first | rfl | trivial, HC.out⟩
    . have heq : (x.toList == s.toList) = false := by rw [toL_eq]; simpa using he
      have HJ2 : Hid (∀ j, j < i + 1 -> ofB (words.getD j []) ≠ s) := fun j hj => by
       by_cases h : j = i
       . subst h; rw [hx]; exact he
       . exact HJ.out j (by omega)
      clear he hx HJ HD
      go_wp2
      go_roundw
      case rel => exact ⟨i + 1, by omega, by go_num, by first | rfl | trivial, HJ2.out⟩
      case measure => simp [intOf]; omega
  . obtain rfl : i = 29 := by omega
    have HT : Hid (V = false) := by
     show _ = _
     rw [<- HV.out]
     cases hq : isW (bts s) with
     | false => rfl
     | true =>
       obtain ⟨j, h1, h2⟩ := (isW_iff s).1 hq
       exact absurd h2 (HJ.out j (by rw [HW.out] at h1; exact h1))
    clear HJ HD
    go_wp2
    go_ret
    rw [HT.out]
    exact ⟨by first | rfl | trivial, HC.out⟩
theorem pre_mid {s : ByteArray} {p n : Nat} {l : List Nat} (hl : l.length = n) (h : p + n <= s.size) : l.isPrefixOf ((bts s).drop p) = true ↔ bts (s.extract p (p + n)) = l := by
 rw [bts_midL s p n h, List.isPrefixOf_iff_prefix, List.prefix_iff_eq_take, hl]
 exact ⟨fun e => e.symm, fun e => e.symm⟩
theorem pre_long {s : ByteArray} {p n : Nat} {l : List Nat} (hl : l.length = n) (h : ¬ p + n <= s.size) (hp : p <= s.size) : l.isPrefixOf ((bts s).drop p) = false := by
 cases hq : l.isPrefixOf ((bts s).drop p) with
 | false => rfl
 | true =>
   have := (List.isPrefixOf_iff_prefix.1 hq).length_le
   rw [List.length_drop, bts_len, hl] at this
   omega
theorem find_at : ∀ (L : List (List Nat)) (f : List Nat -> Bool) (i : Nat) (l : List Nat), L[i]? = some l -> f l = true -> (∀ (j : Nat) (k : List Nat), j < i -> L[j]? = some k -> f k = false) -> L.find? f = some l
 | [], _, i, l, h, _, _ => by cases h
 | x :: L, f, 0, l, h, hf, _ => by
   injection h with h
   subst h
   rw [List.find?_cons, hf]
 | x :: L, f, i + 1, l, h, hf, ho => by
   have hx := ho 0 x (by omega) rfl
   rw [List.find?_cons, hx]
   exact find_at L f i l h hf (fun j k hj hk => ho (j + 1) k (by omega) hk)
theorem find_no (L : List (List Nat)) (f : List Nat -> Bool) (h : ∀ (j : Nat) (k : List Nat), L[j]? = some k -> f k = false) : L.find? f = none := by
 rw [List.find?_eq_none]
 intro x hx
 obtain ⟨j, hj⟩ := List.getElem?_of_mem hx
 rw [h j x hj]
 decide
end Go.Proofs.YtpfiejmhnkcjbaaGreatDoor
namespace Go.Proofs.YtpfiejmhnkcjbaaGreatDoor
set_option maxHeartbeats 1000000
set_option maxRecDepth 8000
open Go.RowKit Lx
set_option linter.unusedVariables false
set_option linter.unusedSimpArgs false
theorem wrapL {n : Nat} {x : Int} (e : x = (n : Int)) (h : n < 9223372036854775808) : wrap64 x = (n : Int) := by rw [e]; simp only [wrap64]; omega
theorem signs_len : ∀ i, i < 21 -> 1 <= (signs.getD i []).length /\ (signs.getD i []).length <= 2 := by decide
theorem getD_mem {L : List (List Nat)} {i : Nat} (h : i < L.length) : L.getD i [] ∈ L := by
 rw [List.getD_eq_getElem?_getD, List.getElem?_eq_getElem h]
 exact List.getElem_mem h
theorem getD_at {L : List (List Nat)} {i : Nat} (h : i < L.length) : L[i]? = some (L.getD i []) := by
 rw [List.getD_eq_getElem?_getD, List.getElem?_eq_getElem h]
 rfl
theorem ofB_size' (l : List Nat) : (ofB l).size = l.length := ofB_size l
theorem sign_any (s : ByteArray) (p : Nat) (hp : p <= s.size) (hs : s.size <= 1000000000) (w : World) : Calls Tryz.prog 25 #[.string s, .int .i64 (p : Int)] w fun e w' => e = .returned (.string (ofB (sgn ((bts s).drop p)))) /\ Hid (Below w.heap.size w w') := by
 have HC : Hid (Below w.heap.size w (w.alloc (.cells (lits signs).toArray 9))) := (Below.refl _ _).alloc (Nat.le_refl _) _
 have HB : Hid ((w.alloc (.cells (lits signs).toArray 9)).heap[w.heap.size]? = some (.cells (lits signs).toArray 9 (0, 0))) := heap_alloc_new w _
 obtain ⟨V, HV⟩ : ∃ V, Hid (ofB (sgn ((bts s).drop p)) = V) := ⟨_, rfl⟩
 rw [HV.out]
 go_enter Tryz.func25, Tryz.ntmps25
 go_wp2_with fail
 rw [ES]
 obtain ⟨b, hb⟩ : ∃ b, w.heap.size = b := ⟨_, rfl⟩
 rw [hb] at HB ⊢
 obtain ⟨w1, hw1⟩ : ∃ w1, w.alloc (.cells (lits signs).toArray 9) = w1 := ⟨_, rfl⟩
 rw [hw1] at HB HC ⊢
 have HC : Hid (Below w.heap.size w w1) := HC
 clear hw1
 have HD : Hid (∀ W, Below w1.heap.size w1 W -> ∀ i, i < 21 -> W.cell? ⟨b, i, none⟩ = some (.string (ofB (signs.getD i [])))) := fun W z i hi => by
  have hlt : b < w1.heap.size := (Array.getElem?_eq_some_iff.1 HB.out).1
  rw [z.cell (p := ⟨b, i, none⟩) hlt, cell_of_row w1 b i _ 9 (0, 0) HB.out]
  have := lits_at (L := signs) (i := i) hi
  simpa using this
 have HW : Hid (signs.length = 21) := rfl
 clear HB
 clear hb
 go_loopw [6, 7] (fun iv _ wr => ∃ i : Nat, i <= 21 /\ iv = .int .i64 (i : Int) /\ Hid (Below w1.heap.size w1 wr /\ ∀ (j : Nat) (k : List Nat), j < i -> signs[j]? = some k -> k.isPrefixOf ((bts s).drop p) = false)) (fun iv _ _ => 21 - (intOf iv).toNat)
 case atStart => exact ⟨0, by omega, rfl, Below.refl _ _, fun j k h => by omega⟩
 case round =>
  obtain ⟨i, hi, rfl, HJ⟩ := hrel
  by_cases hlt : i < 21
  . have hl := signs_len i hlt
    have c1 := HD.out wr HJ.out.1 i hlt
    obtain ⟨x, hx⟩ : ∃ x, ofB (signs.getD i []) = x := ⟨_, rfl⟩
    rw [hx] at c1
    have hn2 : (signs.getD i []).length = x.size := by rw [<- hx, ofB_size']
    rw [hn2] at hl
    have HX : Hid (bts x = signs.getD i []) := by
     show _ = _
     rw [<- hx, signs_oct _ (getD_mem (by rw [HW.out]; exact hlt))]
    have hlt' : (i : Int) < 21 := by omega
    have hx1 : ¬ ((i : Int) < 0) := by omega
    have hx2 : ¬ ((21 : Int) <= (i : Int)) := by omega
    have e1 : wrap64 ((p : Int) + (x.size : Int)) = (p : Int) + (x.size : Int) := wrapL (n := p + x.size) (by omega) (by omega)
    have e2 : IntKind.i64.wrap ((p : Int) + (x.size : Int)) = (p : Int) + (x.size : Int) := by rw [IntKind.wrap_i64]; omega
    have HXX : Hid (ofB (signs.getD i []) = x) := hx
    have HCW : Hid (∀ q, Below w1.heap.size w1 (wr.drewN q)) := fun q => HJ.out.1.trans ⟨rfl, rfl, rfl, Nat.le_refl _, fun _ _ => rfl⟩
    by_cases hfit : p + x.size <= s.size
    . have hf1 : (p : Int) + (x.size : Int) <= (s.size : Int) := by omega
      have hf2 : (p : Int) <= (p : Int) + (x.size : Int) := by omega
      have hf4 : (0 : Int) <= (p : Int) + (x.size : Int) := by omega
      have hf3 : (0 : Int) <= (p : Int) := by omega
      by_cases he : s.extract p (p + x.size) = x
      . have heq : ((s.extract p (p + x.size)).toList == x.toList) = true := by rw [toL_eq]; simpa using he
        have HT : Hid (V = x) := by
         show _ = _
         rw [<- HV.out, <- hx]
         congr 1
         unfold sgn
         rw [find_at signs _ i _ (getD_at (by rw [HW.out]; exact hlt)) ((pre_mid hn2 hfit).2 (by rw [he]; exact HX.out)) (fun j k hj hk => HJ.out.2 j k hj hk)]
         rfl
        clear he hx hn2 hl HX HJ hfit
        go_wp2_with fail
        go_quiet (fail)
        have HE : Hid (Below w1.heap.size w1 (wr.drewN nq)) := HCW.out nq
        have c2 := HD.out _ HE.out i hlt
        rw [HXX.out] at c2
        have HF : Hid (Below w.heap.size w (wr.drewN nq)) := HC.out.trans (HE.out.mono HC.out.size)
        clear c1 HE HCW
        generalize wr.drewN nq = w5 at *
        go_wp2
        go_ret
        rw [HT.out]
        exact ⟨by first | rfl | trivial, HF.out⟩
      . have heq : ((s.extract p (p + x.size)).toList == x.toList) = false := by rw [toL_eq]; simpa using he
        have HJ2 : Hid (∀ (j : Nat) (k : List Nat), j < i + 1 -> signs[j]? = some k -> k.isPrefixOf ((bts s).drop p) = false) := fun j k hj hk => by
         by_cases h : j = i
         . subst h
           have hk2 : k = signs.getD j [] := by
            have := getD_at (L := signs) (i := j) (by rw [HW.out]; exact hlt)
            rw [hk] at this
            exact Option.some.inj this
           cases hq : k.isPrefixOf ((bts s).drop p) with
           | false => rfl
           | true =>
             rw [hk2] at hq
             have h1 := (pre_mid hn2 hfit).1 hq
             exact absurd (bts_inj (h1.trans HX.out.symm)) he
         . exact HJ.out.2 j k (by omega) hk
        have HCW : Hid (∀ q, Below w1.heap.size w1 (wr.drewN q)) := HCW.out
        clear hx hn2 hl HX HJ hfit HXX he
        go_wp2_with fail
        go_quiet (fail)
        have HE : Hid (Below w1.heap.size w1 (wr.drewN nq)) := HCW.out nq
        clear c1
        generalize wr.drewN nq = w5 at *
        go_wp2
        go_roundw
        case rel => exact ⟨i + 1, by omega, by go_num, HE.out, HJ2.out⟩
        case measure => simp [intOf]; omega
    . have hf5 : decide ((p : Int) + (x.size : Int) <= (s.size : Int)) = false := decide_eq_false (by omega)
      have HJ2 : Hid (∀ (j : Nat) (k : List Nat), j < i + 1 -> signs[j]? = some k -> k.isPrefixOf ((bts s).drop p) = false) := fun j k hj hk => by
       by_cases h : j = i
       . subst h
         have hk2 : k = signs.getD j [] := by
          have := getD_at (L := signs) (i := j) (by rw [HW.out]; exact hlt)
          rw [hk] at this
          exact Option.some.inj this
         rw [hk2]
         exact pre_long hn2 hfit hp
       . exact HJ.out.2 j k (by omega) hk
      have HCW : Hid (∀ q, Below w1.heap.size w1 (wr.drewN q)) := HCW.out
      clear hx hn2 hl HX HJ hfit HXX
      go_wp2_with fail
      go_quiet (fail)
      have HE : Hid (Below w1.heap.size w1 (wr.drewN nq)) := HCW.out nq
      clear c1
      generalize wr.drewN nq = w5 at *
      go_wp2
      go_roundw
      case rel => exact ⟨i + 1, by omega, by go_num, HE.out, HJ2.out⟩
      case measure => simp [intOf]; omega
  . obtain rfl : i = 21 := by omega
    have HT : Hid (V = ⟨#[]⟩) := by
     show _ = _
     rw [<- HV.out]
     unfold sgn
     rw [find_no signs _ (fun j k hk => HJ.out.2 j k (by have := (List.getElem?_eq_some_iff.1 hk).1; rw [HW.out] at this; exact this) hk)]
     rfl
    have HE : Hid (Below w.heap.size w wr) := HC.out.trans (HJ.out.1.mono HC.out.size)
    clear HJ HD
    go_wp2
    go_ret
    rw [HT.out]
    exact ⟨by first | rfl | trivial, HE.out⟩
end Go.Proofs.YtpfiejmhnkcjbaaGreatDoor
namespace Go.Proofs.YtpfiejmhnkcjbaaGreatDoor
set_option maxHeartbeats 1000000
set_option maxRecDepth 8000
open Go.RowKit Lx
set_option linter.unusedVariables false
set_option linter.unusedSimpArgs false
structure CellsL (w : World) (b : Nat) (L : List Nat) : Prop where
 cell : ∀ i, i < L.length -> w.cell? ⟨b, i, none⟩ = some (.int .u8 ((L.getD i 0 : Nat) : Int))
 free : ∀ i, i < L.length -> w.frozen? ⟨b, i, none⟩ = false
theorem conv_sbL (s : ByteArray) (hs : s.size <= 1000000000) (W : World) : ∃ c w', (convert 9 34 (.string s)).run Tryz.prog W = .ok (.slice (some ⟨W.heap.size, 0, none⟩) s.size c) w' /\ Below W.heap.size W w' /\ CellsL w' W.heap.size (bts s) := by
 refine ⟨_, _, run_bytes_of_string W 9 34 5 s Tryz.underlying9 Tryz.underlying34 Tryz.underlying5, (Below.drew (Below.refl _ _)).alloc (Nat.le_refl _) _, ?_⟩
 generalize grownCap W s.size 0 5 = c at *
 have hh : ((W.drew.alloc (.cells (bytesRow s c) 5 ((bytesRow s c).size, (bytesRow s c).size + 1))).heap)[W.heap.size]? = some (.cells (bytesRow s c) 5 ((bytesRow s c).size, (bytesRow s c).size + 1)) := by
  show (W.heap.push _)[W.heap.size]? = _
  simp
 refine ⟨fun i hi => ?_, fun i hi => ?_⟩
 . rw [bts_len] at hi
   unfold World.cell?
   simp only [hh]
   rw [bgetL s i hi]
   unfold bytesRow
   rw [Array.getElem?_append_left (by rw [Array.size_map]; exact hi), Array.getElem?_map]
   have h2 : i < s.data.size := hi
   rw [Array.getElem?_eq_getElem h2]
   rfl
 . rw [bts_len] at hi
   unfold World.frozen?
   simp only [hh]
   have : s.size <= (bytesRow s c).size := by unfold bytesRow; rw [Array.size_append, Array.size_map]; exact Nat.le_add_right _ _
   simp
   omega
theorem CellsL.set {w : World} {b : Nat} {L : List Nat} (h : CellsL w b L) (n z : Nat) (hn : n < L.length) : CellsL (w.setCell ⟨b, n, none⟩ (.int .u8 (z : Int))) b (L.set n z) := by
 refine ⟨fun i hi => ?_, fun i hi => ?_⟩
 . rw [List.length_set] at hi
   have h1 := h.cell i hi
   by_cases e : i = n
   . subst e
     rw [World.cell?_setCell_same _ _ _ h1]
     congr 2
     rw [List.getD_eq_getElem?_getD, List.getElem?_set, if_pos rfl, if_pos hi]
     rfl
   . rw [World.cell?_setCell_other _ _ _ _ (by intro h; injection h with h1 h2; exact e h2.symm), h1]
     congr 3
     rw [List.getD_eq_getElem?_getD, List.getD_eq_getElem?_getD, List.getElem?_set, if_neg (by omega)]
 . rw [List.length_set] at hi
   rw [World.frozen?_setCell]
   exact h.free i hi
theorem back_L {w : World} {b c : Nat} {L : List Nat} (h : CellsL w b L) (ho : ∀ x ∈ L, x < 256) : (convert 34 9 (.slice (some ⟨b, 0, none⟩) L.length c)).run Tryz.prog w = .ok (.string (ofB L)) w := by
 have := run_convert_bytes_back (P := Tryz.prog) w 34 9 5 ⟨b, 0, none⟩ c (L.map UInt8.ofNat) Tryz.underlying34 Tryz.underlying5 Tryz.underlying9 (fun j hj => by
  have hj' : j < L.length := by simpa using hj
  rw [Addr.add_lit, Nat.zero_add, h.cell j hj', List.getElem_map]
  have hx := ho _ (List.getElem_mem hj')
  rw [List.getD_eq_getElem?_getD, List.getElem?_eq_getElem hj']
  simp
  omega)
 rw [List.length_map] at this
 exact this
theorem sml_step {L : List Nat} {i c : Nat} (h : L[i]? = some c) : ((sml L).take i ++ L.drop i).set i (if 65 <= c /\ c <= 90 then c + 32 else c) = (sml L).take (i + 1) ++ L.drop (i + 1) := by
 have hi := (List.getElem?_eq_some_iff.1 h).1
 have hl : ((sml L).take i).length = i := by rw [List.length_take]; unfold sml; rw [List.length_map]; omega
 have h2 : L.drop i = c :: L.drop (i + 1) := by
  rw [List.drop_eq_getElem_cons hi, (List.getElem?_eq_some_iff.1 h).2]
 have h3 : (sml L).take (i + 1) = (sml L).take i ++ [if 65 <= c /\ c <= 90 then c + 32 else c] := by
  have h4 : (sml L)[i]? = some (if 65 <= c /\ c <= 90 then c + 32 else c) := by
   unfold sml
   rw [List.getElem?_map, h]
   rfl
  have hs := (List.getElem?_eq_some_iff.1 h4).1
  rw [List.take_succ_eq_append_getElem hs, (List.getElem?_eq_some_iff.1 h4).2]
 rw [h2, h3, List.set_append_right _ _ (by omega), hl, Nat.sub_self]
 simp
theorem sml_mid {L : List Nat} {i c : Nat} (h : L[i]? = some c) : ((sml L).take i ++ L.drop i).getD i 0 = c /\ i < ((sml L).take i ++ L.drop i).length /\ ((sml L).take i ++ L.drop i).length = L.length := by
 have hi := (List.getElem?_eq_some_iff.1 h).1
 have hl : ((sml L).take i).length = i := by rw [List.length_take]; unfold sml; rw [List.length_map]; omega
 refine ⟨?_, by rw [List.length_append, hl, List.length_drop]; omega, by rw [List.length_append, hl, List.length_drop]; omega⟩
 rw [List.getD_eq_getElem?_getD, List.getElem?_append_right (by omega), hl, Nat.sub_self, List.getElem?_drop, Nat.add_zero, h]
 rfl
theorem sml_oct {L : List Nat} (h : ∀ x ∈ L, x < 256) : ∀ x ∈ sml L, x < 256 := fun x hx => by
 obtain ⟨y, hy, rfl⟩ := List.mem_map.1 hx
 have := h y hy
 show (if 65 <= y /\ y <= 90 then y + 32 else y) < 256
 split <;> omega
theorem small_any (s : ByteArray) (hs : s.size <= 1000000000) (w : World) : Calls Tryz.prog 22 #[.string s] w fun e w' => e = .returned (.string (ofB (sml (bts s)))) /\ Hid (Below w.heap.size w w') := by
 obtain ⟨c, w1, hcv, hbl, hcl⟩ := conv_sbL s hs w
 have HB : Hid (Below w.heap.size w w1) := hbl
 have HCL : Hid (CellsL w1 w.heap.size (bts s)) := hcl
 have HL : Hid ((bts s).length = s.size) := bts_len s
 have HOC : Hid (∀ x ∈ bts s, x < 256) := bts_oct s
 obtain ⟨b, hb⟩ : ∃ b, w.heap.size = b := ⟨_, rfl⟩
 rw [hb] at hcv HCL
 have HBB : Hid (w.heap.size = b) := hb
 clear hb hbl hcl
 go_enter Tryz.func22, Tryz.ntmps22
 go_wp2_with fail
 clear hcv
 go_loopw [4] (fun iv wr => ∃ i : Nat, i <= s.size /\ iv = .int .i64 (i : Int) /\ Hid (Below w.heap.size w wr /\ CellsL wr b ((sml (bts s)).take i ++ (bts s).drop i))) (fun iv _ => s.size - (intOf iv).toNat)
 case atStart => exact ⟨0, Nat.zero_le _, rfl, HB.out, by simpa using HCL.out⟩
 case round =>
  obtain ⟨i, hi, rfl, HR⟩ := hrel
  by_cases hlt : i < s.size
  . obtain ⟨x, hx⟩ : ∃ x, (bts s)[i]? = some x := ⟨_, List.getElem?_eq_getElem (by rw [HL.out]; exact hlt)⟩
    have HX : Hid ((bts s)[i]? = some x) := hx
    obtain ⟨m1, m2, m3⟩ := sml_mid hx
    have hx256 := HOC.out x (List.mem_of_getElem? hx)
    have c1 : wr.cell? ⟨b, i, none⟩ = some (.int .u8 (x : Int)) := by rw [HR.out.2.cell i m2, m1]
    have f1 : wr.frozen? ⟨b, i, none⟩ = false := HR.out.2.free i m2
    have hlt' : (i : Int) < (s.size : Int) := by omega
    have hx1 : ¬ ((i : Int) < 0) := by omega
    have hx2 : ¬ ((s.size : Int) <= (i : Int)) := by omega
    have HS := sml_step hx
    have HM2 : Hid (i < ((sml (bts s)).take i ++ (bts s).drop i).length) := m2
    by_cases hbig : 65 <= x /\ x <= 90
    . rw [if_pos hbig] at HS
      have HNX : Hid (CellsL (wr.setCell ⟨b, i, none⟩ (.int .u8 ((x + 32 : Nat) : Int))) b ((sml (bts s)).take (i + 1) ++ (bts s).drop (i + 1))) := by
       have := HR.out.2.set i (x + 32) m2
       rw [HS] at this
       exact this
      have HBX : Hid (Below w.heap.size w (wr.setCell ⟨b, i, none⟩ (.int .u8 ((x + 32 : Nat) : Int)))) := HR.out.1.setCell (by rw [HBB.out]; exact Nat.le_refl _) _
      have g1 : (65 : Int) <= (x : Int) := by omega
      have g2 : (x : Int) <= 90 := by omega
      have g3 : IntKind.u8.wrap ((x : Int) + 32) = ((x + 32 : Nat) : Int) := by rw [IntKind.wrap_u8]; omega
      clear HS m1 m2 m3 hx hbig HX HM2 HR hx256
      go_wp2
      go_roundw
      case rel => exact ⟨i + 1, by omega, by go_num, HBX.out, HNX.out⟩
      case measure => simp [intOf]; omega
    . rw [if_neg hbig] at HS
      have HNX : Hid (CellsL wr b ((sml (bts s)).take (i + 1) ++ (bts s).drop (i + 1))) := by
       rw [<- HS]
       have e : ((sml (bts s)).take i ++ (bts s).drop i).set i x = (sml (bts s)).take i ++ (bts s).drop i := by
        apply List.ext_getElem?
        intro j
        rw [List.getElem?_set]
        split
        . rename_i e
          subst e
          rw [List.getD_eq_getElem?_getD, List.getElem?_eq_getElem m2, Option.getD_some] at m1
          rw [List.getElem?_eq_getElem m2, m1]
        . rfl
       rw [e]
       exact HR.out.2
      have HBX : Hid (Below w.heap.size w wr) := HR.out.1
      have hc : (x : Int) < 65 ∨ ((65 : Int) <= (x : Int) /\ ¬ (x : Int) <= 90) := by omega
      clear HS m1 m2 m3 hx hbig HX HM2 HR hx256
      rcases hc with g1 | ⟨g1, g2⟩
      . have g1' : ¬ (65 : Int) <= (x : Int) := by omega
        go_wp2
        go_roundw
        case rel => exact ⟨i + 1, by omega, by go_num, HBX.out, HNX.out⟩
        case measure => simp [intOf]; omega
      . go_wp2
        go_roundw
        case rel => exact ⟨i + 1, by omega, by go_num, HBX.out, HNX.out⟩
        case measure => simp [intOf]; omega
  . obtain rfl : i = s.size := by omega
    have e : (sml (bts s)).take s.size ++ (bts s).drop s.size = sml (bts s) := by
     rw [List.drop_of_length_le (by rw [HL.out]; exact Nat.le_refl _), List.append_nil, List.take_of_length_le (by unfold sml; rw [List.length_map, HL.out]; exact Nat.le_refl _)]
    have hl2 : (sml (bts s)).length = s.size := by unfold sml; rw [List.length_map, HL.out]
    have hcl := HR.out.2
    rw [e] at hcl
    have hcv := back_L (c := c) hcl (sml_oct HOC.out)
    rw [hl2] at hcv
    have HBX : Hid (Below w.heap.size w wr) := HR.out.1
    clear HR hcl e hl2
    go_wp2
    go_ret
    exact ⟨rfl, HBX.out⟩
end Go.Proofs.YtpfiejmhnkcjbaaGreatDoor
