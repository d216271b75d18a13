/-
  text's reader: goesOn; what value, list and record answer.
-/
import Derived.Test.YtmlfhplhiedfjaaGreatDoorBRa6
namespace Go.Proofs.YtmlfhplhiedfjaaGreatDoor
open Go.RowKit Math
set_option linter.unusedVariables false
set_option linter.unusedSimpArgs false
theorem oper_apn9 {o : Oper} {a : Act} {K : Act → World → Prop} {Q : Exit → Act → World → Prop} {w : World} (s x : Operand)
    (ho : o.op = .call { callee := .builtin .append, args := #[s, x], argTypes := #[36, 36] })
    (base : Nat) (v : Value) (n : Nat) (xs : List Value) (hs : a.eval s = v) (hown : w.ownsRow base 9 1 v n xs) (ax : Option Addr) (c : Nat) (ns : List ByteArray) (hx : a.eval x = .slice ax ns.length c) (hsrc : Nms w ax ns) (hnil : ax = none → c = 0)
    (hb : n + ns.length ≤ 1000000) (hbase : base ≤ w.heap.size)
    (h : ∀ v' w', w'.ownsRow base 9 1 v' (n + ns.length) (xs ++ ns.map Value.string) → w.grownBy w' v.ownBlock → (v'.ownBlock = v.ownBlock ∨ v'.ownBlock = some w.heap.size) → K (a.put o.dst v') w') : Oper.wp Tryz.prog o a w K Q := by
  obtain ⟨i, hi, hz0, hz1, hz2⟩ := info_parts Tryz.info9
  cases ax with
  | none =>
    obtain rfl := hnil rfl
    have hl : ns = [] := by
      rcases hsrc with h | ⟨_, _, h, _⟩
      · exact h
      · cases h
    subst hl
    have hr := run_append_owned_none (P := Tryz.prog) (w := w) base 36 o.type 9 i 1 Tryz.underlying36 hi v _ _ hown
    unfold Oper.wp execOp
    simp only [ho, resolve, invoke, builtin, Sem.run_bind, Sem.run_pure, Result.andThen_ok, List.map_toArray, List.map_cons, List.map_nil, hs, hx, List.length_nil, hr]
    exact (h v w (by simpa using hown) (World.grownBy.refl _ _) (.inl rfl))
  | some ad =>
    obtain ⟨v', w', r1, r2, r3, _, r5⟩ := run_append_own_at (P := Tryz.prog) w base 36 o.type 9 i _ 1 16 Tryz.underlying36 hi hz0 hz1 hz2 rfl (by decide) v _ _ hown ad ns.length c (ns.map Value.string) (by simp) (by
      intro j u hj
      rcases hsrc with rfl | ⟨b, off, he, hc⟩
      · simp at hj
      · obtain rfl := Option.some.inj he
        rw [Addr.add_lit]
        rw [List.getElem?_map] at hj
        cases hn : ns[j]? with
        | none => rw [hn] at hj; cases hj
        | some y => rw [hn] at hj; cases hj; exact hc j y hn) (by
      intro u hu
      obtain ⟨y, _, rfl⟩ := List.mem_map.1 hu
      rfl) (by unfold maxLen; omega) (by omega) hbase
    unfold Oper.wp execOp
    simp only [ho, resolve, invoke, builtin, Sem.run_bind, Sem.run_pure, Result.andThen_ok, List.map_toArray, List.map_cons, List.map_nil, hs, hx, r1]
    exact (h v' w' r2 r3 r5)
theorem oper_apk9 {o : Oper} {a : Act} {K : Act → World → Prop} {Q : Exit → Act → World → Prop} {w : World} (s x : Operand)
    (ho : o.op = .call { callee := .builtin .append, args := #[s, x], argTypes := #[22, 22] })
    (base : Nat) (v : Value) (n : Nat) (xs : List Value) (hs : a.eval s = v) (hown : w.ownsRow base 38 6 v n xs) (b : Nat) (m c : Nat) (news : List Value) (hx : a.eval x = .slice (some ⟨b, 0, none⟩) m c) (hl : news.length = m * 6) (hc : ∀ j u, news[j]? = some u → w.cell? ⟨b, j, none⟩ = some u) (h1 : ∀ u ∈ news, u.oneCell' = true)
    (hb : n + m ≤ 1000000) (hbase : base ≤ w.heap.size)
    (h : ∀ v' w', w'.ownsRow base 38 6 v' (n + m) (xs ++ news) → w.grownBy w' v.ownBlock → (v'.ownBlock = v.ownBlock ∨ v'.ownBlock = some w.heap.size) → K (a.put o.dst v') w') : Oper.wp Tryz.prog o a w K Q := by
  obtain ⟨i, hi, hz0, hz1, hz2⟩ := info_parts Tryz.info25
  obtain ⟨v', w', r1, r2, r3, _, r5⟩ := run_append_own_at (P := Tryz.prog) w base 22 o.type 38 i _ 6 88 Tryz.underlying22 hi hz0 hz1 hz2 rfl (by decide) v _ _ hown ⟨b, 0, none⟩ m c news hl (fun j u hj => by rw [Addr.add_lit, Nat.zero_add]; exact hc j u hj) h1 (by unfold maxLen; omega) (by omega) hbase
  unfold Oper.wp execOp
  simp only [ho, resolve, invoke, builtin, Sem.run_bind, Sem.run_pure, Result.andThen_ok, List.map_toArray, List.map_cons, List.map_nil, hs, hx, r1]
  exact (h v' w' r2 r3 r5)
/-- What goesOn tells. -/
inductive Go9 (s s' : ByteArray) (bad bad' : Bool) (en : List Nat) (sep : List Nat) : Bool → Prop
  | was (h : bad = true) (h2 : bad' = true) (h3 : s' = s) : Go9 s s' bad bad' en sep false
  | fin (h : bad = false) (h2 : bad' = false) (h3 : bts s = en ++ bts s') : Go9 s s' bad bad' en sep false
  | brk (h : bad = false) (h2 : bad' = true) (h3 : ∀ t, bts s ≠ en ++ t) (h4 : Rm sep (bts s) false (bts s') true) : Go9 s s' bad bad' en sep false
  | on (h : bad = false) (h2 : bad' = false) (h3 : ∀ t, bts s ≠ en ++ t) (h4 : Rm sep (bts s) false (bts s') false) : Go9 s s' bad bad' en sep true
set_option maxRecDepth 8000 in
set_option maxHeartbeats 2000000 in
theorem goesOn9 (r n : Nat) (s en : ByteArray) (bad : Bool) (hs : s.size ≤ 600000) (W : World) (hb : Blk W r 76 [.string s, .bool bad]) :
    Calls Tryz.prog 119 #[.pointer (some ⟨r, 0, none⟩), .int .i64 (n : Int), .string en] W fun e w' => ∃ (s' : ByteArray) (bad' t : Bool), e = .returned (.bool t) ∧ Hid (Kt r W w' s' bad' ∧ s'.size ≤ s.size ∧ Go9 s s' bad bad' (bts en) (if n = 0 then [] else [44, 32]) t) := by
  have HB : Hid (Blk W r 76 [.string s, .bool bad]) := hb
  have c1 : W.cell? ⟨r, 1, none⟩ = some (.bool bad) := hb.cell 1
  obtain ⟨SEP, hSEP⟩ : ∃ SEP : List Nat, (if n = 0 then [] else [44, 32]) = SEP := ⟨_, rfl⟩
  have HSP : Hid ((if n = 0 then [] else [44, 32]) = SEP) := hSEP
  rw [hSEP]
  clear hb hSEP
  go_enter Tryz.func119, Tryz.ntmps119
  cases bad with
  | true =>
    have HF : Hid (Kt r W W s true) := ⟨HB.out, World.grownBy.refl _ _⟩
    clear HB
    go_wp2
    go_ret
    exact ⟨s, true, false, rfl, HF.out, Nat.le_refl _, .was rfl rfl rfl⟩
  | false =>
    have K := skip9 r s en false W HB.out
    go_wp2_with fail
    refine K.mono ?_
    rintro e w1 ⟨s1, is, rfl, H1⟩
    clear K c1
    cases is with
    | true =>
      have HF : Hid (Kt r W w1 s1 false ∧ s1.size ≤ s.size ∧ Go9 s s1 false false (bts en) SEP false) := by
        rcases H1.out.2 with ⟨_, h⟩ | ⟨h, _⟩
        · refine ⟨H1.out.1, ?_, .fin rfl rfl h⟩
          have := congrArg List.length h
          rw [List.length_append, bts_len, bts_len, bts_len] at this
          omega
        · cases h
      clear H1 HB
      go_wp2
      go_ret
      exact ⟨s1, false, false, rfl, HF.out⟩
    | false =>
      have H1n : Hid (s1 = s ∧ ∀ t, bts s ≠ bts en ++ t) := by
        rcases H1.out.2 with ⟨h, _⟩ | ⟨_, h⟩
        · cases h
        · exact h
      have HK1 : Hid (Kt r W w1 s1 false) := H1.out.1
      obtain rfl : s1 = s := H1n.out.1
      clear H1 HB
      by_cases hn : n = 0
      · subst hn
        have d1 : w1.cell? ⟨r, 1, none⟩ = some (.bool false) := HK1.out.blk.cell 1
        have HF : Hid (Kt r W w1 s1 false ∧ s1.size ≤ s1.size ∧ Go9 s1 s1 false false (bts en) SEP true) := ⟨HK1.out, Nat.le_refl _, .on rfl rfl H1n.out.2 (by rw [← HSP.out]; exact rm_nil _ _)⟩
        clear HK1 H1n
        go_wp2
        go_ret
        exact ⟨s1, false, true, rfl, HF.out⟩
      · have hgt : (0 : Int) < (n : Int) := by omega
        have K2 := must9 r s1 ⟨#[44, 32]⟩ false w1 HK1.out.blk
        obtain rfl : [44, 32] = SEP := by rw [← HSP.out, if_neg hn]
        clear hn HSP
        go_wp2_with fail
        refine K2.mono ?_
        rintro e w2 ⟨s2, b2, rfl, H2⟩
        have HK2 : Hid (Kt r W w2 s2 b2) := HK1.out.trans H2.out.1
        have d1 : w2.cell? ⟨r, 1, none⟩ = some (.bool b2) := HK2.out.blk.cell 1
        have hz2 : s2.size ≤ s1.size := H2.out.2.2.2
        have HR : Hid (Rm [44, 32] (bts s1) false (bts s2) b2) := H2.out.2.1
        clear K2 H2 HK1
        cases b2 with
        | true =>
          go_wp2
          go_ret
          exact ⟨s2, true, false, rfl, HK2.out, hz2, .brk rfl rfl H1n.out.2 HR.out⟩
        | false =>
          go_wp2
          go_ret
          exact ⟨s2, false, true, rfl, HK2.out, hz2, .on rfl rfl H1n.out.2 HR.out⟩
/-- A value that was read. -/
structure Vo9 (dp : Int) (r : Nat) (W w' : World) (s s' : ByteArray) (bad bad' : Bool) (p : Vt) (na : Option Addr) (nc : Nat) (ka : Option Addr) (kc : Nat) : Prop where
  kt : Kt r W w' s' bad'
  vl : ∃ Lp, VlL w' p na nc ka kc Lp ∧ ∀ x ∈ Lp, W.heap.size ≤ x ∧ x < w'.heap.size
  wf : WfV p
  vx : Vx dp (bts s) bad (bts s') bad' p
def VvC (dp : Int) : Prop := ∀ (r : Nat) (s : ByteArray) (bad : Bool) (W : World), s.size ≤ 600000 → Blk W r 76 [.string s, .bool bad] →
  Calls Tryz.prog 35 #[.pointer (some ⟨r, 0, none⟩), .int .i64 dp] W fun e w' => ∃ (p : Vt) (na : Option Addr) (nc : Nat) (ka : Option Addr) (kc : Nat) (s' : ByteArray) (bad' : Bool), e = .returned (.agg #[.int .i64 p.1.k, .int .i64 p.1.n, .int .i64 p.1.s, .string p.1.t, .slice na p.1.ns.length nc, .slice ka p.2.list.length kc]) ∧ Hid (Vo9 dp r W w' s s' bad bad' p na nc ka kc)
theorem Vo9.le {dp : Int} {r : Nat} {W w' : World} {s s' : ByteArray} {bad bad' : Bool} {p : Vt} {na : Option Addr} {nc : Nat} {ka : Option Addr} {kc : Nat} (h : Vo9 dp r W w' s s' bad bad' p na nc ka kc) : s'.size ≤ s.size := by
  have := h.vx.rt.len
  rw [bts_len, bts_len] at this
  exact this
/-- A List, a Struct that was read. -/
structure Vp9 (b : Bool) (dp : Int) (kd : Int) (r : Nat) (W w' : World) (s s' : ByteArray) (bad bad' : Bool) (x : Fo × List ByteArray) (na : Option Addr) (nc : Nat) (ka : Option Addr) (kc : Nat) : Prop where
  kt : Kt r W w' s' bad'
  vl : ∃ Lp, VlL w' (nst kd x) na nc ka kc Lp ∧ ∀ y ∈ Lp, W.heap.size ≤ y ∧ y < w'.heap.size
  wf : WfV (nst kd x)
  rt : ∃ l1 b1, Rm [if b then 123 else 91] (bts s) bad l1 b1 ∧ Rt (encX b) (fun x m => NxOk b dp x ∧ Stp m) l1 b1 (bts s') bad' x
  pr : bad' = false → x.1.ws + x.2.length + 1 + s'.size ≤ s.size
  le : s'.size ≤ s.size
theorem nst_wf9 (kd : Int) (h0 : 0 ≤ kd) (h1 : kd ≤ 9) {f : Fo} {ns : List ByteArray} (hf : Wf f) (hl : f.list.length ≤ 1000000) (hn : ns.length ≤ 1000000) (hs : ∀ x ∈ ns, x.size ≤ 1000000000) : WfV (nst kd (f, ns)) :=
  ⟨⟨by show (-9223372036854775808 : Int) ≤ kd; omega, by show kd < 9223372036854775808; omega, by show (-9223372036854775808 : Int) ≤ 0; omega, by show (0 : Int) < 9223372036854775808; omega, by show (-9223372036854775808 : Int) ≤ 0; omega, by show (0 : Int) < 9223372036854775808; omega, by show em.size ≤ _; decide, by show ns.length ≤ _; omega, fun x hx => Nat.le_trans (hs x hx) (by omega)⟩, by show f.list.length ≤ _; omega, hf⟩
end Go.Proofs.YtmlfhplhiedfjaaGreatDoor
