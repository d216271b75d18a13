/-
   ·  ·  · 
-/
import Derived.Test.YtobfdcdobhhagaaGreatDoorAG16x
import Derived.Lib.AppendStr
namespace Go.Proofs.YtobfdcdobhhagaaGreatDoor
open Go.RowKit
set_option linter.unusedVariables false
def zer : List Value := [.int .i64 0, .int .i64 0, .int .i64 0, .string ⟨#[]⟩, .slice none 0 0, .slice none 0 0]
theorem len_ws (f : Fo) : f.list.length <= f.ws := by
 induction f with
 | nil => simp [Fo.list]
 | cons h k r _ ihr => simp only [Fo.list, Fo.ws, List.length_cons, wsH]; omega
theorem res_two {P : Program} {w : World} {fn : Func} {p q : Tmp} {ty : TypeId} (h : fn.results = #[.cell p ty, .tmp q]) (tmps : Array Value) (g : Nat) (t : TypeId) (cs : List Value) (d : TypeDesc)
 (hp : tmps.getD p undef = .pointer (some ⟨g, 0, none⟩)) (hg : Blk w g t cs) (hu : P.underlying ty = some d) (hd : d.isRow = true) (hi : (P.info? ty).map (·.size) = some cs.length) :
 (results fn tmps).run P w = .ok (.tuple #[.agg cs.toArray, tmps.getD q undef]) w := by
 have hp' : tmps[p]?.getD undef = .pointer (some ⟨g, 0, none⟩) := by simpa using hp
 simp [results, h, hp', asAddr, run_loadVar_row w g t ty cs.toArray (0, 0) d hg hu (by cases d <;> simp_all [TypeDesc.isRow]) (by simpa using hi)]
theorem s25 : (Tryz.prog.info? 38).map (·.size) = some 6 := by kernel_rfl
end Go.Proofs.YtobfdcdobhhagaaGreatDoor
namespace Go.Proofs.YtobfdcdobhhagaaGreatDoor
open Go.RowKit Math
set_option linter.unusedVariables false
structure Ap (B : Nat) (W w' : World) (v v' : Value) (l' : List Nat) : Prop where
 own : Own w' B v' l'
 gr : W.grownBy w' v.ownBlock
 ob : ∀ b, v'.ownBlock = some b -> v.ownBlock = some b ∨ W.heap.size <= b
theorem Ap.trans {B : Nat} {W w1 w2 : World} {v v1 v2 : Value} {l1 l2 : List Nat} (h : Ap B W w1 v v1 l1) (k : Ap B w1 w2 v1 v2 l2) : Ap B W w2 v v2 l2 := by
 have hs := h.gr.size
 refine ⟨k.own, ⟨k.gr.os.trans h.gr.os, k.gr.tape.trans h.gr.tape, k.gr.output.trans h.gr.output, Nat.le_trans hs k.gr.size, fun i hi hne => ?_⟩, fun b hb => ?_⟩
 . rw [k.gr.block i (Nat.lt_of_lt_of_le hi hs) (fun e => ?_), h.gr.block i hi hne]
   rcases h.ob i e.symm with h1 | h1
   . exact hne h1.symm
   . omega
 . rcases k.ob b hb with h1 | h1
   . exact h.ob b h1
   . exact .inr (Nat.le_trans hs h1)
theorem Ap.refl {B : Nat} {W : World} {v : Value} {l : List Nat} (h : Own W B v l) : Ap B W W v v l := ⟨h, World.grownBy.refl _ _, fun b hb => .inl hb⟩
theorem Ap.after {B : Nat} {W w1 w2 : World} {v v2 : Value} {l2 : List Nat} (g : Below W.heap.size W w1) (k : Ap B w1 w2 v v2 l2) : Ap B W w2 v v2 l2 :=
 ⟨k.own, ⟨k.gr.os.trans g.os, k.gr.tape.trans g.tape, k.gr.output.trans g.output, Nat.le_trans g.size k.gr.size, fun i hi hne => (k.gr.block i (Nat.lt_of_lt_of_le hi g.size) hne).trans (g.block i hi)⟩,
  fun b hb => (k.ob b hb).imp id (fun h => Nat.le_trans g.size h)⟩
theorem Own.below {w w' : World} {B : Nat} {v : Value} {l : List Nat} (h : Own w B v l) (g : Below w.heap.size w w') : Own w' B v l :=
 World.ownsRow.kept (row := none) h ⟨g.os, g.tape, g.output, g.size, fun x hx _ => g.block x hx⟩ (by simpa using Classical.em _)
theorem Ap.below {B C : Nat} {w0 W w' : World} {v v' : Value} {l l' : List Nat} (k : Ap B W w' v v' l') (h : Own W B v l) (hb : Below C w0 W) (hC : C <= W.heap.size) (hCB : C <= B) : Below C w0 w' :=
 hb.grown k.gr hC fun x hx => Nat.le_trans hCB (World.ownsRow.lt h x hx).1
theorem Ap.blk {B : Nat} {W w' : World} {v v' : Value} {l' : List Nat} (k : Ap B W w' v v' l') {b : Nat} {t : TypeId} {vs : List Value} (h : Blk W b t vs) (hne : v.ownBlock ≠ some b) : Blk w' b t vs := h.kept k.gr (fun e => hne e.symm)
theorem Own.ne {w : World} {B : Nat} {v : Value} {l : List Nat} (h : Own w B v l) : v.ownBlock ≠ some w.heap.size := fun e => by
 have := (World.ownsRow.lt h _ e).2
 omega
theorem vals_app (l m : List Nat) : vals (l ++ m) = vals l ++ vals m := by simp [vals]
theorem ap_bytes {ops : Array Oper} {rest : List Oper} {o : Oper} {a : Act} {Q : Exit -> Act -> World -> Prop} {w : World} (hgd : o.guard = none) (s x : Operand)
 (ho : o.op = .call { callee := .builtin .append, args := #[s, x], argTypes := #[52, 52] })
 (base : Nat) (v : Value) (l : List Nat) (hs : a.eval s = v) (hown : Own w base v l)
 (ax : Option Addr) (m c : Nat) (l2 : List Nat) (hm : m = l2.length) (hx : a.eval x = .slice ax m c) (hsrc : Byt w ax l2) (hnil : ax = none -> c = 0)
 (hb : l.length + l2.length <= 1000000000) (hbase : base <= w.heap.size)
 (h : ∀ v' w', Ap base w w' v v' (l ++ l2) -> wpList Tryz.prog ops Q rest (a.put o.dst v') w') : wpList Tryz.prog ops Q (o :: rest) a w := by
 subst hm
 refine wpList_plain hgd fun K hK => ?_
 obtain ⟨i, hi, hz0, hz1, hz2⟩ := info_parts Tryz.info5
 cases ax with
 | none =>
   obtain rfl := hnil rfl
   have hl : l2 = [] := by
    rcases hsrc with h | ⟨_, _, h, _⟩
    . exact h
    . cases h
   subst hl
   have hr := run_append_owned_none (P := Tryz.prog) (w := w) base 52 o.type 5 i 1 Tryz.underlying52 hi v _ _ hown
   unfold Oper.wp execOp
   simp only [ho, resolve, invoke, builtin, Sem.run_bind, Sem.run_pure, Result.andThen_ok, List.map_toArray, List.map_cons, List.map_nil, hs, hx, List.length_nil, hr]
   exact hK _ _ (h v w (by rw [List.append_nil]; exact Ap.refl hown))
 | some ad =>
   obtain ⟨v', w', r1, r2, r3, _, r5⟩ := run_append_own_at (P := Tryz.prog) w base 52 o.type 5 i _ 1 1 Tryz.underlying52 hi hz0 hz1 hz2 rfl (by decide) v _ _ hown ad l2.length c (vals l2) (by simp [vals_length]) (by
    intro j u hj
    have hjl : j < l2.length := by
     have := (List.getElem?_eq_some_iff.1 hj).1
     simpa [vals_length] using this
    rcases hsrc with rfl | ⟨b, off, he, hc⟩
    . simp at hjl
    . obtain rfl := Option.some.inj he
      rw [vals_get l2 j hjl] at hj
      rw [Addr.add_lit, hc j hjl]
      exact hj) (vals_one l2) (by unfold maxLen; omega) (by omega) hbase
   unfold Oper.wp execOp
   simp only [ho, resolve, invoke, builtin, Sem.run_bind, Sem.run_pure, Result.andThen_ok, List.map_toArray, List.map_cons, List.map_nil, hs, hx, r1]
   refine hK _ _ (h v' w' ⟨?_, r3, fun b hb => ?_⟩)
   . unfold Own
     rw [List.length_append, vals_app]
     exact r2
   . rcases r5 with e | e
     . exact .inl (e.symm.trans hb)
     . rw [e] at hb
       exact .inr (by injection hb with hb; omega)
theorem str_vals (s : ByteArray) : Lib.strCells s = vals (bts s) := by
 simp [Lib.strCells, vals, bts]
theorem ap_str {ops : Array Oper} {rest : List Oper} {o : Oper} {a : Act} {Q : Exit -> Act -> World -> Prop} {w : World} (hgd : o.guard = none) (sl x : Operand)
 (ho : o.op = .call { callee := .builtin .append, args := #[sl, x], argTypes := #[52, 9] })
 (base : Nat) (v : Value) (l : List Nat) (hs : a.eval sl = v) (hown : Own w base v l) (s : ByteArray) (hx : a.eval x = .string s)
 (hb : l.length + s.size <= 1000000000) (hbase : base <= w.heap.size)
 (h : ∀ v' w', Ap base w w' v v' (l ++ bts s) -> wpList Tryz.prog ops Q rest (a.put o.dst v') w') : wpList Tryz.prog ops Q (o :: rest) a w := by
 refine wpList_plain hgd fun K hK => ?_
 obtain ⟨i, hi, hz0, hz1, hz2⟩ := info_parts Tryz.info5
 obtain ⟨v', w', r1, r2, r3, r4⟩ := Lib.run_append_own_string (P := Tryz.prog) w base 52 9 o.type 5 i Tryz.underlying52 Tryz.underlying9 hi hz0 hz1 hz2 v _ _ hown s (by unfold maxLen; omega) (by omega) hbase
 have ob : ∀ b, v'.ownBlock = some b -> v.ownBlock = some b ∨ w.heap.size <= b := by
  intro b hvb
  rcases hown.2 with ⟨rfl, hn0⟩ | ⟨g, cap, cur, rfl, hbg, hg, hnc, hcm, hcs, htake⟩
  . by_cases hm : s.size = 0
    . have := r4.2 ⟨rfl, hm⟩
      rw [this] at hvb
      cases hvb
    . have hr := run_append_nil_string (P := Tryz.prog) w 52 9 o.type 5 i (.int .u8 0) Tryz.underlying52 Tryz.underlying9 hi hz0 s (by omega) (by omega) (by rw [hz2]; omega)
      rw [r1] at hr
      injection hr with e1 e2
      rw [e1] at hvb
      simp only [Value.ownBlock, Option.some.injEq] at hvb
      exact .inr (by omega)
  . by_cases hroom : l.length + s.size <= cap
    . have hcs' : cur.size = cap := by simpa using hcs
      have hr := Lib.run_append_room_string (P := Tryz.prog) w 52 9 o.type 5 i Tryz.underlying52 Tryz.underlying9 hi hz1 g l.length cap cur hg s hroom (by omega)
      rw [r1] at hr
      injection hr with e1 e2
      rw [e1] at hvb
      exact .inl hvb
    . have holds : ∀ j u, (vals l)[j]? = some u -> w.cell? ((⟨g, 0, none⟩ : Addr).add j) = some u := World.ownsRow.cells hown (g := g) rfl
      have hr := Lib.run_append_grow_string (P := Tryz.prog) w 52 9 o.type 5 i (.int .u8 0) Tryz.underlying52 Tryz.underlying9 hi hz0 ⟨g, 0, none⟩ l.length cap (vals l) (by rw [hz1, vals_length]; simp) holds s (by omega) (by omega) (by rw [hz2]; exact growslice_fits (by omega) (by omega))
      rw [r1] at hr
      injection hr with e1 e2
      rw [e1] at hvb
      simp only [Value.ownBlock, Option.some.injEq] at hvb
      exact .inr (by omega)
 unfold Oper.wp execOp
 simp only [ho, resolve, invoke, builtin, Sem.run_bind, Sem.run_pure, Result.andThen_ok, List.map_toArray, List.map_cons, List.map_nil, hs, hx, r1]
 refine hK _ _ (h v' w' ⟨?_, r3, ob⟩)
 unfold Own
 rw [List.length_append, bts_len, vals_app, <- str_vals]
 exact r2
theorem Own.byt {w : World} {B : Nat} {v : Value} {l : List Nat} (h : Own w B v l) : ∃ a c, v = .slice a l.length c /\ Byt w a l /\ (a = none -> c = 0) /\ l.length <= c /\ c <= maxLen := by
 have h' := h
 rcases h with ⟨_, ⟨rfl, h0⟩ | ⟨g, cap, cur, rfl, hg, hh, hle, hm, _⟩⟩
 . have : l = [] := List.eq_nil_of_length_eq_zero h0
   subst this
   exact ⟨none, 0, rfl, .inl rfl, fun _ => rfl, Nat.le_refl _, by unfold maxLen; omega⟩
 . refine ⟨_, cap, rfl, .inr ⟨g, 0, rfl, fun i hi => ?_⟩, (fun e => by cases e), hle, hm⟩
   rw [Nat.zero_add, World.ownsRow.cellAt h' i (by omega), vals_get l i hi]
end Go.Proofs.YtobfdcdobhhagaaGreatDoor
namespace Go.Proofs.YtobfdcdobhhagaaGreatDoor
open Go.RowKit Math
set_option linter.unusedVariables false
theorem zigN (n : Int) (h1 : -9223372036854775808 <= n) (h2 : n < 9223372036854775808) (w : World) :
 Calls Tryz.prog 134 #[.int .i64 n] w fun e w' => e = .returned (.int .u64 ((zigS n).toNat : Int)) /\ w' = w := by
 have := zig_any n h1 (by omega) w
 rw [show zigS n = ((zigS n).toNat : Int) from (Int.toNat_of_nonneg (zig_bd n h1 (by omega)).1).symm] at this
 exact this
theorem zigrN (n : Int) (h1 : -9223372036854775808 <= n) (h2 : n < 9223372036854775808) (w : World) :
 Calls Tryz.prog 109 #[.int .i64 n] w fun e w' => e = .returned (.int .u64 ((zigS n).toNat : Int)) /\ w' = w := by
 have := zigr_any n h1 (by omega) w
 rw [show zigS n = ((zigS n).toNat : Int) from (Int.toNat_of_nonneg (zig_bd n h1 (by omega)).1).symm] at this
 exact this
theorem apUv (v : Value) (l : List Nat) (u : Nat) (hu : u < 18446744073709551616) (B : Nat) (W : World) (ho : Own W B v l) (hB : B <= W.heap.size) (hl : l.length <= 900000000) :
 Calls Tryz.prog 97 #[v, .int .u64 (u : Int)] W fun e w' => ∃ v', e = .returned v' /\ Ap B W w' v v' (l ++ uv u) := by
 have h10 := uv_ten u hu
 have K := fun W => uv_any u hu W
 have HO : Hid (Own W B v l) := ho
 clear ho
 go_enter Tryz.func97, Tryz.ntmps97
 go_wp2_with fail
 refine (K _).mono ?_
 rintro e w1 ⟨r, rfl, o1, b1⟩
 obtain ⟨ax, c, rfl, hby, hnil, _⟩ := o1.byt
 have hs := b1.size
 have HB : Hid (Below W.heap.size W w1) := b1
 have HY : Hid (Byt w1 ax (uv u)) := hby
 clear o1 b1 K hby
 go_wp2_with (at_builtin; go_must (refine ap_bytes rfl (.tmp 5) (.tmp 7) rfl B v l rfl (HO.out.below HB.out) ax _ c (uv u) rfl rfl HY.out hnil (by omega) (by omega) ?_))
 intro v' w2 A
 have HA : Hid (Ap B W w2 v v' (l ++ uv u)) := Ap.after HB.out A
 clear A HB HY HO
 go_wp2
 go_ret
 exact ⟨v', rfl, HA.out⟩
theorem apInt (v : Value) (l : List Nat) (n : Int) (h1 : -9223372036854775808 <= n) (h2 : n < 9223372036854775808) (B : Nat) (W : World) (ho : Own W B v l) (hB : B <= W.heap.size) (hl : l.length <= 900000000) :
 Calls Tryz.prog 96 #[v, .int .i64 n] W fun e w' => ∃ v', e = .returned v' /\ Ap B W w' v v' (l ++ uv (zigS n).toNat) := by
 have z := (zig_nat n h1 h2).1
 have K := fun W => zigN n h1 h2 W
 have K2 := apUv v l (zigS n).toNat z B W ho hB hl
 generalize (zigS n).toNat = u at *
 clear ho
 go_enter Tryz.func96, Tryz.ntmps96
 go_wp2_with fail
 refine (K _).mono ?_
 rintro e w1 ⟨rfl, hw⟩
 have hw' := hw.symm
 subst hw'
 clear hw
 go_wp2_with fail
 refine K2.mono ?_
 rintro e w2 ⟨v', rfl, A⟩
 have HA : Hid (Ap B W w2 v v' (l ++ uv u)) := A
 clear A K K2
 go_wp2
 go_ret
 exact ⟨v', rfl, HA.out⟩
theorem apTx (v : Value) (l : List Nat) (s : ByteArray) (B : Nat) (W : World) (ho : Own W B v l) (hB : B <= W.heap.size) (hl : l.length + s.size <= 800000000) :
 Calls Tryz.prog 98 #[v, .string s] W fun e w' => ∃ v', e = .returned v' /\ Ap B W w' v v' (l ++ txB s) := by
 have K2 := apUv v l s.size (by omega) B W ho hB (by omega)
 have h10 := uv_ten s.size (by omega)
 clear ho
 go_enter Tryz.func98, Tryz.ntmps98
 go_wp2_with fail
 refine K2.mono ?_
 rintro e w1 ⟨v1, rfl, A⟩
 have HA : Hid (Ap B W w1 v v1 (l ++ uv s.size)) := A
 have hs := A.gr.size
 clear A K2
 go_wp2_with (at_builtin; go_must (refine ap_str rfl (.tmp 9) (.tmp 10) rfl B v1 (l ++ uv s.size) rfl HA.out.own s rfl (by rw [List.length_append]; omega) (by omega) ?_))
 intro v2 w2 A2
 have HA2 : Hid (Ap B W w2 v v2 (l ++ txB s)) := by
  exact HA.out.trans A2
 clear A2 HA
 go_wp2
 go_ret
 exact ⟨v2, rfl, HA2.out⟩
end Go.Proofs.YtobfdcdobhhagaaGreatDoor
namespace Go.Proofs.YtobfdcdobhhagaaGreatDoor
set_option maxRecDepth 8000
open Go.RowKit Math
set_option linter.unusedVariables false
structure Wr (l x l' : List Nat) : Prop where
 le : l.length <= l'.length
 up : l'.length <= l.length + x.length
 out : l' = l ++ x ∨ 65536 < l'.length
theorem Wr.all (l x : List Nat) : Wr l x (l ++ x) := ⟨by simp, by simp, .inl rfl⟩
theorem Wr.trans {l x l1 y l2 : List Nat} (h : Wr l x l1) (k : Wr l1 y l2) : Wr l (x ++ y) l2 := by
 have a := h.le; have b := h.up; have c := k.le; have d := k.up
 refine ⟨by omega, by rw [List.length_append]; omega, ?_⟩
 rcases k.out with rfl | h2
 . rcases h.out with rfl | h1
   . exact .inl (List.append_assoc _ _ _)
   . exact .inr (by omega)
 . exact .inr h2
theorem byt_at (w : World) (l : List Nat) (b : Nat) (hb : w.heap.size = b) : Byt (w.alloc (.cells (vals l).toArray 5)) (some ⟨b, 0, none⟩) l := by
 subst hb
 exact byt_lit w l
theorem av_long (k n s : Int) (t : ByteArray) (na : Option Addr) (nl nc : Nat) (ka : Option Addr) (kl kc : Nat) (ax : Option Addr) (c : Nat) (l : List Nat) (hl : 65536 < l.length) (W : World) :
 Calls Tryz.prog 53 #[.slice ax l.length c, .agg #[.int .i64 k, .int .i64 n, .int .i64 s, .string t, .slice na nl nc, .slice ka kl kc]] W fun e w' => e = .returned (.slice ax l.length c) /\ Below W.heap.size W w' := by
 have h1 : decide ((65536 : Int) < (l.length : Int)) = true := by simp; omega
 go_enter Tryz.func53, Tryz.ntmps53
 go_wp2
 go_ret
 exact ⟨rfl, (Below.refl _ _).alloc (Nat.le_refl _) _⟩
theorem av_1 (n s : Int) (t : ByteArray) (na : Option Addr) (nl nc : Nat) (ka : Option Addr) (kl kc : Nat) (ax : Option Addr) (c : Nat) (l : List Nat) (hl : l.length <= 65536) (B : Nat) (W : World) (ho : Own W B (.slice ax l.length c) l) (hB : B <= W.heap.size) :
 Calls Tryz.prog 53 #[.slice ax l.length c, .agg #[.int .i64 1, .int .i64 n, .int .i64 s, .string t, .slice na nl nc, .slice ka kl kc]] W fun e w' => ∃ v', e = .returned v' /\ Ap B W w' (.slice ax l.length c) v' (l ++ [1]) := by
 have h1 : decide ((65536 : Int) < (l.length : Int)) = false := by simp; omega
 have hb0 : Below W.heap.size W (W.alloc (.cells #[.int .i64 1, .int .i64 n, .int .i64 s, .string t, .slice na nl nc, .slice ka kl kc] 38)) := (Below.refl _ _).alloc (Nat.le_refl _) _
 have HO : Hid (Own (W.alloc (.cells #[.int .i64 1, .int .i64 n, .int .i64 s, .string t, .slice na nl nc, .slice ka kl kc] 38)) B (.slice ax l.length c) l) := ho.alloc _
 have HX : Hid (Blk (W.alloc (.cells #[.int .i64 1, .int .i64 n, .int .i64 s, .string t, .slice na nl nc, .slice ka kl kc] 38)) W.heap.size 38 [.int .i64 1, .int .i64 n, .int .i64 s, .string t, .slice na nl nc, .slice ka kl kc]) := blk_new W 38 [.int .i64 1, .int .i64 n, .int .i64 s, .string t, .slice na nl nc, .slice ka kl kc]
 have HN : Hid ((Value.slice ax l.length c).ownBlock ≠ some W.heap.size) := ho.ne
 have HB0 : Hid (Below W.heap.size W (W.alloc (.cells #[.int .i64 1, .int .i64 n, .int .i64 s, .string t, .slice na nl nc, .slice ka kl kc] 38))) := hb0
 have hz : B <= (W.alloc (.cells #[.int .i64 1, .int .i64 n, .int .i64 s, .string t, .slice na nl nc, .slice ka kl kc] 38)).heap.size := by simp; omega
 have HZ : Hid ((W.alloc (.cells #[.int .i64 1, .int .i64 n, .int .i64 s, .string t, .slice na nl nc, .slice ka kl kc] 38)).heap.size = W.heap.size + 1) := by show _ = _; simp
 clear ho hb0
 go_enter Tryz.func53, Tryz.ntmps53
 go_wp2_with (at_builtin; go_must (generalize hWW : World.alloc W _ = W1 at *; refine ap_bytes rfl (.tmp 9) (.tmp 13) rfl B _ l rfl (HO.out.alloc _) _ _ _ [1] rfl rfl (byt_at W1 [1] _ HZ.out) (by simp) (by simp; omega) (by simp; omega) ?_))
 intro v1 w1 A1
 have HA : Hid (Ap B W1 w1 (.slice ax l.length c) v1 (l ++ [1])) := Ap.after ((Below.refl _ _).alloc (Nat.le_refl _) _) A1
 clear A1
 have hb1 : B <= w1.heap.size := Nat.le_trans hz HA.out.gr.size
 have HX1 : Hid (Blk w1 W.heap.size 38 [.int .i64 1, .int .i64 n, .int .i64 s, .string t, .slice na nl nc, .slice ka kl kc]) := HA.out.blk HX.out HN.out
 have HNE : Hid (v1.ownBlock ≠ some W.heap.size) := fun e => by
  rcases HA.out.ob _ e with h | h
  . exact HN.out h
  . rw [HZ.out] at h
    omega
 have HAW : Hid (Ap B W w1 (.slice ax l.length c) v1 (l ++ [1])) := Ap.after HB0.out HA.out
 clear HA HX HO HB0 hWW hz
 have c0 : w1.cell? ⟨W.heap.size, 0, none⟩ = some (.int .i64 1) := HX1.out.cell 0
 go_wp2
 go_ret
 exact ⟨v1, rfl, HAW.out⟩
theorem av_2 (n s : Int) (t : ByteArray) (na : Option Addr) (nl nc : Nat) (ka : Option Addr) (kl kc : Nat) (ax : Option Addr) (c : Nat) (l : List Nat) (hl : l.length <= 65536) (q : Nat) (hq : q < 256) (hn : n = (q : Int)) (B : Nat) (W : World) (ho : Own W B (.slice ax l.length c) l) (hB : B <= W.heap.size) :
 Calls Tryz.prog 53 #[.slice ax l.length c, .agg #[.int .i64 2, .int .i64 n, .int .i64 s, .string t, .slice na nl nc, .slice ka kl kc]] W fun e w' => ∃ v', e = .returned v' /\ Ap B W w' (.slice ax l.length c) v' (l ++ [2, q]) := by
 subst hn
 have h1 : decide ((65536 : Int) < (l.length : Int)) = false := by simp; omega
 have hb0 : Below W.heap.size W (W.alloc (.cells #[.int .i64 2, .int .i64 (q : Int), .int .i64 s, .string t, .slice na nl nc, .slice ka kl kc] 38)) := (Below.refl _ _).alloc (Nat.le_refl _) _
 have HO : Hid (Own (W.alloc (.cells #[.int .i64 2, .int .i64 (q : Int), .int .i64 s, .string t, .slice na nl nc, .slice ka kl kc] 38)) B (.slice ax l.length c) l) := ho.alloc _
 have HX : Hid (Blk (W.alloc (.cells #[.int .i64 2, .int .i64 (q : Int), .int .i64 s, .string t, .slice na nl nc, .slice ka kl kc] 38)) W.heap.size 38 [.int .i64 2, .int .i64 (q : Int), .int .i64 s, .string t, .slice na nl nc, .slice ka kl kc]) := blk_new W 38 [.int .i64 2, .int .i64 (q : Int), .int .i64 s, .string t, .slice na nl nc, .slice ka kl kc]
 have HN : Hid ((Value.slice ax l.length c).ownBlock ≠ some W.heap.size) := ho.ne
 have HB0 : Hid (Below W.heap.size W (W.alloc (.cells #[.int .i64 2, .int .i64 (q : Int), .int .i64 s, .string t, .slice na nl nc, .slice ka kl kc] 38))) := hb0
 have hz : B <= (W.alloc (.cells #[.int .i64 2, .int .i64 (q : Int), .int .i64 s, .string t, .slice na nl nc, .slice ka kl kc] 38)).heap.size := by simp; omega
 have HZ : Hid ((W.alloc (.cells #[.int .i64 2, .int .i64 (q : Int), .int .i64 s, .string t, .slice na nl nc, .slice ka kl kc] 38)).heap.size = W.heap.size + 1) := by show _ = _; simp
 clear ho hb0
 go_enter Tryz.func53, Tryz.ntmps53
 go_wp2_with (at_builtin; go_must (generalize hWW : World.alloc W _ = W1 at *; refine ap_bytes rfl (.tmp 9) (.tmp 13) rfl B _ l rfl (HO.out.alloc _) _ _ _ [2] rfl rfl (byt_at W1 [2] _ HZ.out) (by simp) (by simp; omega) (by simp; omega) ?_))
 intro v1 w1 A1
 have HA : Hid (Ap B W1 w1 (.slice ax l.length c) v1 (l ++ [2])) := Ap.after ((Below.refl _ _).alloc (Nat.le_refl _) _) A1
 clear A1
 have hb1 : B <= w1.heap.size := Nat.le_trans hz HA.out.gr.size
 have HX1 : Hid (Blk w1 W.heap.size 38 [.int .i64 2, .int .i64 (q : Int), .int .i64 s, .string t, .slice na nl nc, .slice ka kl kc]) := HA.out.blk HX.out HN.out
 have HNE : Hid (v1.ownBlock ≠ some W.heap.size) := fun e => by
  rcases HA.out.ob _ e with h | h
  . exact HN.out h
  . rw [HZ.out] at h
    omega
 have HAW : Hid (Ap B W w1 (.slice ax l.length c) v1 (l ++ [2])) := Ap.after HB0.out HA.out
 clear HA HX HO HB0 hWW hz
 have c0 : w1.cell? ⟨W.heap.size, 0, none⟩ = some (.int .i64 2) := HX1.out.cell 0
 have c1 : w1.cell? ⟨W.heap.size, 1, none⟩ = some (.int .i64 (q : Int)) := HX1.out.cell 1
 go_wp2_with (at_builtin; go_must (refine ap_bytes rfl (.tmp 19) (.tmp 23) rfl B v1 (l ++ [2]) rfl (HAW.out.own.alloc _) _ _ _ [q] rfl rfl (byt_lit w1 [q]) (by simp) (by simp; omega) (by simp; omega) ?_))
 intro v2 w2 A2
 have XA2 : Ap B W w2 (.slice ax l.length c) v2 (l ++ [2, q]) := by
  have := HAW.out.trans (Ap.after ((Below.refl _ _).alloc (Nat.le_refl _) _) A2)
  simpa using this
 have HA2 : Hid _ := XA2
 clear XA2
 clear A2
 go_wp2
 go_ret
 exact ⟨v2, rfl, HA2.out⟩
theorem av_3 (n s : Int) (t : ByteArray) (na : Option Addr) (nl nc : Nat) (ka : Option Addr) (kl kc : Nat) (ax : Option Addr) (c : Nat) (l : List Nat) (hl : l.length <= 65536) (n0 : -9223372036854775808 <= n) (n1 : n < 9223372036854775808) (B : Nat) (W : World) (ho : Own W B (.slice ax l.length c) l) (hB : B <= W.heap.size) :
 Calls Tryz.prog 53 #[.slice ax l.length c, .agg #[.int .i64 3, .int .i64 n, .int .i64 s, .string t, .slice na nl nc, .slice ka kl kc]] W fun e w' => ∃ v', e = .returned v' /\ Ap B W w' (.slice ax l.length c) v' (l ++ 3 :: uv (zigS n).toNat) := by
 have h1 : decide ((65536 : Int) < (l.length : Int)) = false := by simp; omega
 have hb0 : Below W.heap.size W (W.alloc (.cells #[.int .i64 3, .int .i64 n, .int .i64 s, .string t, .slice na nl nc, .slice ka kl kc] 38)) := (Below.refl _ _).alloc (Nat.le_refl _) _
 have HO : Hid (Own (W.alloc (.cells #[.int .i64 3, .int .i64 n, .int .i64 s, .string t, .slice na nl nc, .slice ka kl kc] 38)) B (.slice ax l.length c) l) := ho.alloc _
 have HX : Hid (Blk (W.alloc (.cells #[.int .i64 3, .int .i64 n, .int .i64 s, .string t, .slice na nl nc, .slice ka kl kc] 38)) W.heap.size 38 [.int .i64 3, .int .i64 n, .int .i64 s, .string t, .slice na nl nc, .slice ka kl kc]) := blk_new W 38 [.int .i64 3, .int .i64 n, .int .i64 s, .string t, .slice na nl nc, .slice ka kl kc]
 have HN : Hid ((Value.slice ax l.length c).ownBlock ≠ some W.heap.size) := ho.ne
 have HB0 : Hid (Below W.heap.size W (W.alloc (.cells #[.int .i64 3, .int .i64 n, .int .i64 s, .string t, .slice na nl nc, .slice ka kl kc] 38))) := hb0
 have hz : B <= (W.alloc (.cells #[.int .i64 3, .int .i64 n, .int .i64 s, .string t, .slice na nl nc, .slice ka kl kc] 38)).heap.size := by simp; omega
 have HZ : Hid ((W.alloc (.cells #[.int .i64 3, .int .i64 n, .int .i64 s, .string t, .slice na nl nc, .slice ka kl kc] 38)).heap.size = W.heap.size + 1) := by show _ = _; simp
 clear ho hb0
 go_enter Tryz.func53, Tryz.ntmps53
 go_wp2_with (at_builtin; go_must (generalize hWW : World.alloc W _ = W1 at *; refine ap_bytes rfl (.tmp 9) (.tmp 13) rfl B _ l rfl (HO.out.alloc _) _ _ _ [3] rfl rfl (byt_at W1 [3] _ HZ.out) (by simp) (by simp; omega) (by simp; omega) ?_))
 intro v1 w1 A1
 have HA : Hid (Ap B W1 w1 (.slice ax l.length c) v1 (l ++ [3])) := Ap.after ((Below.refl _ _).alloc (Nat.le_refl _) _) A1
 clear A1
 have hb1 : B <= w1.heap.size := Nat.le_trans hz HA.out.gr.size
 have HX1 : Hid (Blk w1 W.heap.size 38 [.int .i64 3, .int .i64 n, .int .i64 s, .string t, .slice na nl nc, .slice ka kl kc]) := HA.out.blk HX.out HN.out
 have HNE : Hid (v1.ownBlock ≠ some W.heap.size) := fun e => by
  rcases HA.out.ob _ e with h | h
  . exact HN.out h
  . rw [HZ.out] at h
    omega
 have HAW : Hid (Ap B W w1 (.slice ax l.length c) v1 (l ++ [3])) := Ap.after HB0.out HA.out
 clear HA HX HO HB0 hWW hz
 have c0 : w1.cell? ⟨W.heap.size, 0, none⟩ = some (.int .i64 3) := HX1.out.cell 0
 have c1 : w1.cell? ⟨W.heap.size, 1, none⟩ = some (.int .i64 n) := HX1.out.cell 1
 have K := apInt v1 (l ++ [3]) n n0 n1 B w1 HAW.out.own hb1 (by simp; omega)
 go_wp2_with fail
 refine K.mono ?_
 clear K
 rintro e w2 ⟨v2, rfl, A2⟩
 have XA2 : Ap B W w2 (.slice ax l.length c) v2 (l ++ 3 :: uv (zigS n).toNat) := by
  have := HAW.out.trans A2
  simpa using this
 have HA2 : Hid _ := XA2
 clear XA2
 clear A2
 go_wp2
 go_ret
 exact ⟨v2, rfl, HA2.out⟩
theorem av_5 (n s : Int) (t : ByteArray) (na : Option Addr) (nl nc : Nat) (ka : Option Addr) (kl kc : Nat) (ax : Option Addr) (c : Nat) (l : List Nat) (hl : l.length <= 65536) (q : Nat) (hq : q <= 9007199254740992) (hn : n = (q : Int)) (B : Nat) (W : World) (ho : Own W B (.slice ax l.length c) l) (hB : B <= W.heap.size) :
 Calls Tryz.prog 53 #[.slice ax l.length c, .agg #[.int .i64 5, .int .i64 n, .int .i64 s, .string t, .slice na nl nc, .slice ka kl kc]] W fun e w' => ∃ v', e = .returned v' /\ Ap B W w' (.slice ax l.length c) v' (l ++ 5 :: uv q) := by
 subst hn
 have h1 : decide ((65536 : Int) < (l.length : Int)) = false := by simp; omega
 have hb0 : Below W.heap.size W (W.alloc (.cells #[.int .i64 5, .int .i64 (q : Int), .int .i64 s, .string t, .slice na nl nc, .slice ka kl kc] 38)) := (Below.refl _ _).alloc (Nat.le_refl _) _
 have HO : Hid (Own (W.alloc (.cells #[.int .i64 5, .int .i64 (q : Int), .int .i64 s, .string t, .slice na nl nc, .slice ka kl kc] 38)) B (.slice ax l.length c) l) := ho.alloc _
 have HX : Hid (Blk (W.alloc (.cells #[.int .i64 5, .int .i64 (q : Int), .int .i64 s, .string t, .slice na nl nc, .slice ka kl kc] 38)) W.heap.size 38 [.int .i64 5, .int .i64 (q : Int), .int .i64 s, .string t, .slice na nl nc, .slice ka kl kc]) := blk_new W 38 [.int .i64 5, .int .i64 (q : Int), .int .i64 s, .string t, .slice na nl nc, .slice ka kl kc]
 have HN : Hid ((Value.slice ax l.length c).ownBlock ≠ some W.heap.size) := ho.ne
 have HB0 : Hid (Below W.heap.size W (W.alloc (.cells #[.int .i64 5, .int .i64 (q : Int), .int .i64 s, .string t, .slice na nl nc, .slice ka kl kc] 38))) := hb0
 have hz : B <= (W.alloc (.cells #[.int .i64 5, .int .i64 (q : Int), .int .i64 s, .string t, .slice na nl nc, .slice ka kl kc] 38)).heap.size := by simp; omega
 have HZ : Hid ((W.alloc (.cells #[.int .i64 5, .int .i64 (q : Int), .int .i64 s, .string t, .slice na nl nc, .slice ka kl kc] 38)).heap.size = W.heap.size + 1) := by show _ = _; simp
 clear ho hb0
 go_enter Tryz.func53, Tryz.ntmps53
 go_wp2_with (at_builtin; go_must (generalize hWW : World.alloc W _ = W1 at *; refine ap_bytes rfl (.tmp 9) (.tmp 13) rfl B _ l rfl (HO.out.alloc _) _ _ _ [5] rfl rfl (byt_at W1 [5] _ HZ.out) (by simp) (by simp; omega) (by simp; omega) ?_))
 intro v1 w1 A1
 have HA : Hid (Ap B W1 w1 (.slice ax l.length c) v1 (l ++ [5])) := Ap.after ((Below.refl _ _).alloc (Nat.le_refl _) _) A1
 clear A1
 have hb1 : B <= w1.heap.size := Nat.le_trans hz HA.out.gr.size
 have HX1 : Hid (Blk w1 W.heap.size 38 [.int .i64 5, .int .i64 (q : Int), .int .i64 s, .string t, .slice na nl nc, .slice ka kl kc]) := HA.out.blk HX.out HN.out
 have HNE : Hid (v1.ownBlock ≠ some W.heap.size) := fun e => by
  rcases HA.out.ob _ e with h | h
  . exact HN.out h
  . rw [HZ.out] at h
    omega
 have HAW : Hid (Ap B W w1 (.slice ax l.length c) v1 (l ++ [5])) := Ap.after HB0.out HA.out
 clear HA HX HO HB0 hWW hz
 have c0 : w1.cell? ⟨W.heap.size, 0, none⟩ = some (.int .i64 5) := HX1.out.cell 0
 have c1 : w1.cell? ⟨W.heap.size, 1, none⟩ = some (.int .i64 (q : Int)) := HX1.out.cell 1
 have K := apUv v1 (l ++ [5]) q (by omega) B w1 HAW.out.own hb1 (by simp; omega)
 go_wp2_with fail
 refine K.mono ?_
 clear K
 rintro e w2 ⟨v2, rfl, A2⟩
 have XA2 : Ap B W w2 (.slice ax l.length c) v2 (l ++ 5 :: uv q) := by
  have := HAW.out.trans A2
  simpa using this
 have HA2 : Hid _ := XA2
 clear XA2
 clear A2
 go_wp2
 go_ret
 exact ⟨v2, rfl, HA2.out⟩
theorem av_6 (n s : Int) (t : ByteArray) (na : Option Addr) (nl nc : Nat) (ka : Option Addr) (kl kc : Nat) (ax : Option Addr) (c : Nat) (l : List Nat) (hl : l.length <= 65536) (ht : t.size <= 16384) (B : Nat) (W : World) (ho : Own W B (.slice ax l.length c) l) (hB : B <= W.heap.size) :
 Calls Tryz.prog 53 #[.slice ax l.length c, .agg #[.int .i64 6, .int .i64 n, .int .i64 s, .string t, .slice na nl nc, .slice ka kl kc]] W fun e w' => ∃ v', e = .returned v' /\ Ap B W w' (.slice ax l.length c) v' (l ++ 6 :: txB t) := by
 have h1 : decide ((65536 : Int) < (l.length : Int)) = false := by simp; omega
 have hb0 : Below W.heap.size W (W.alloc (.cells #[.int .i64 6, .int .i64 n, .int .i64 s, .string t, .slice na nl nc, .slice ka kl kc] 38)) := (Below.refl _ _).alloc (Nat.le_refl _) _
 have HO : Hid (Own (W.alloc (.cells #[.int .i64 6, .int .i64 n, .int .i64 s, .string t, .slice na nl nc, .slice ka kl kc] 38)) B (.slice ax l.length c) l) := ho.alloc _
 have HX : Hid (Blk (W.alloc (.cells #[.int .i64 6, .int .i64 n, .int .i64 s, .string t, .slice na nl nc, .slice ka kl kc] 38)) W.heap.size 38 [.int .i64 6, .int .i64 n, .int .i64 s, .string t, .slice na nl nc, .slice ka kl kc]) := blk_new W 38 [.int .i64 6, .int .i64 n, .int .i64 s, .string t, .slice na nl nc, .slice ka kl kc]
 have HN : Hid ((Value.slice ax l.length c).ownBlock ≠ some W.heap.size) := ho.ne
 have HB0 : Hid (Below W.heap.size W (W.alloc (.cells #[.int .i64 6, .int .i64 n, .int .i64 s, .string t, .slice na nl nc, .slice ka kl kc] 38))) := hb0
 have hz : B <= (W.alloc (.cells #[.int .i64 6, .int .i64 n, .int .i64 s, .string t, .slice na nl nc, .slice ka kl kc] 38)).heap.size := by simp; omega
 have HZ : Hid ((W.alloc (.cells #[.int .i64 6, .int .i64 n, .int .i64 s, .string t, .slice na nl nc, .slice ka kl kc] 38)).heap.size = W.heap.size + 1) := by show _ = _; simp
 clear ho hb0
 go_enter Tryz.func53, Tryz.ntmps53
 go_wp2_with (at_builtin; go_must (generalize hWW : World.alloc W _ = W1 at *; refine ap_bytes rfl (.tmp 9) (.tmp 13) rfl B _ l rfl (HO.out.alloc _) _ _ _ [6] rfl rfl (byt_at W1 [6] _ HZ.out) (by simp) (by simp; omega) (by simp; omega) ?_))
 intro v1 w1 A1
 have HA : Hid (Ap B W1 w1 (.slice ax l.length c) v1 (l ++ [6])) := Ap.after ((Below.refl _ _).alloc (Nat.le_refl _) _) A1
 clear A1
 have hb1 : B <= w1.heap.size := Nat.le_trans hz HA.out.gr.size
 have HX1 : Hid (Blk w1 W.heap.size 38 [.int .i64 6, .int .i64 n, .int .i64 s, .string t, .slice na nl nc, .slice ka kl kc]) := HA.out.blk HX.out HN.out
 have HNE : Hid (v1.ownBlock ≠ some W.heap.size) := fun e => by
  rcases HA.out.ob _ e with h | h
  . exact HN.out h
  . rw [HZ.out] at h
    omega
 have HAW : Hid (Ap B W w1 (.slice ax l.length c) v1 (l ++ [6])) := Ap.after HB0.out HA.out
 clear HA HX HO HB0 hWW hz
 have c0 : w1.cell? ⟨W.heap.size, 0, none⟩ = some (.int .i64 6) := HX1.out.cell 0
 have c3 : w1.cell? ⟨W.heap.size, 3, none⟩ = some (.string t) := HX1.out.cell 3
 have K := apTx v1 (l ++ [6]) t B w1 HAW.out.own hb1 (by simp; omega)
 go_wp2_with fail
 refine K.mono ?_
 clear K
 rintro e w2 ⟨v2, rfl, A2⟩
 have XA2 : Ap B W w2 (.slice ax l.length c) v2 (l ++ 6 :: txB t) := by
  have := HAW.out.trans A2
  simpa using this
 have HA2 : Hid _ := XA2
 clear XA2
 clear A2
 go_wp2
 go_ret
 exact ⟨v2, rfl, HA2.out⟩
theorem av_7 (n s : Int) (t : ByteArray) (na : Option Addr) (nl nc : Nat) (ka : Option Addr) (kl kc : Nat) (ax : Option Addr) (c : Nat) (l : List Nat) (hl : l.length <= 65536) (ht : t.size <= 16384) (B : Nat) (W : World) (ho : Own W B (.slice ax l.length c) l) (hB : B <= W.heap.size) :
 Calls Tryz.prog 53 #[.slice ax l.length c, .agg #[.int .i64 7, .int .i64 n, .int .i64 s, .string t, .slice na nl nc, .slice ka kl kc]] W fun e w' => ∃ v', e = .returned v' /\ Ap B W w' (.slice ax l.length c) v' (l ++ 7 :: txB t) := by
 have h1 : decide ((65536 : Int) < (l.length : Int)) = false := by simp; omega
 have hb0 : Below W.heap.size W (W.alloc (.cells #[.int .i64 7, .int .i64 n, .int .i64 s, .string t, .slice na nl nc, .slice ka kl kc] 38)) := (Below.refl _ _).alloc (Nat.le_refl _) _
 have HO : Hid (Own (W.alloc (.cells #[.int .i64 7, .int .i64 n, .int .i64 s, .string t, .slice na nl nc, .slice ka kl kc] 38)) B (.slice ax l.length c) l) := ho.alloc _
 have HX : Hid (Blk (W.alloc (.cells #[.int .i64 7, .int .i64 n, .int .i64 s, .string t, .slice na nl nc, .slice ka kl kc] 38)) W.heap.size 38 [.int .i64 7, .int .i64 n, .int .i64 s, .string t, .slice na nl nc, .slice ka kl kc]) := blk_new W 38 [.int .i64 7, .int .i64 n, .int .i64 s, .string t, .slice na nl nc, .slice ka kl kc]
 have HN : Hid ((Value.slice ax l.length c).ownBlock ≠ some W.heap.size) := ho.ne
 have HB0 : Hid (Below W.heap.size W (W.alloc (.cells #[.int .i64 7, .int .i64 n, .int .i64 s, .string t, .slice na nl nc, .slice ka kl kc] 38))) := hb0
 have hz : B <= (W.alloc (.cells #[.int .i64 7, .int .i64 n, .int .i64 s, .string t, .slice na nl nc, .slice ka kl kc] 38)).heap.size := by simp; omega
 have HZ : Hid ((W.alloc (.cells #[.int .i64 7, .int .i64 n, .int .i64 s, .string t, .slice na nl nc, .slice ka kl kc] 38)).heap.size = W.heap.size + 1) := by show _ = _; simp
 clear ho hb0
 go_enter Tryz.func53, Tryz.ntmps53
 go_wp2_with (at_builtin; go_must (generalize hWW : World.alloc W _ = W1 at *; refine ap_bytes rfl (.tmp 9) (.tmp 13) rfl B _ l rfl (HO.out.alloc _) _ _ _ [7] rfl rfl (byt_at W1 [7] _ HZ.out) (by simp) (by simp; omega) (by simp; omega) ?_))
 intro v1 w1 A1
 have HA : Hid (Ap B W1 w1 (.slice ax l.length c) v1 (l ++ [7])) := Ap.after ((Below.refl _ _).alloc (Nat.le_refl _) _) A1
 clear A1
 have hb1 : B <= w1.heap.size := Nat.le_trans hz HA.out.gr.size
 have HX1 : Hid (Blk w1 W.heap.size 38 [.int .i64 7, .int .i64 n, .int .i64 s, .string t, .slice na nl nc, .slice ka kl kc]) := HA.out.blk HX.out HN.out
 have HNE : Hid (v1.ownBlock ≠ some W.heap.size) := fun e => by
  rcases HA.out.ob _ e with h | h
  . exact HN.out h
  . rw [HZ.out] at h
    omega
 have HAW : Hid (Ap B W w1 (.slice ax l.length c) v1 (l ++ [7])) := Ap.after HB0.out HA.out
 clear HA HX HO HB0 hWW hz
 have c0 : w1.cell? ⟨W.heap.size, 0, none⟩ = some (.int .i64 7) := HX1.out.cell 0
 have c3 : w1.cell? ⟨W.heap.size, 3, none⟩ = some (.string t) := HX1.out.cell 3
 have K := apTx v1 (l ++ [7]) t B w1 HAW.out.own hb1 (by simp; omega)
 go_wp2_with fail
 refine K.mono ?_
 clear K
 rintro e w2 ⟨v2, rfl, A2⟩
 have XA2 : Ap B W w2 (.slice ax l.length c) v2 (l ++ 7 :: txB t) := by
  have := HAW.out.trans A2
  simpa using this
 have HA2 : Hid _ := XA2
 clear XA2
 clear A2
 go_wp2
 go_ret
 exact ⟨v2, rfl, HA2.out⟩
end Go.Proofs.YtobfdcdobhhagaaGreatDoor
