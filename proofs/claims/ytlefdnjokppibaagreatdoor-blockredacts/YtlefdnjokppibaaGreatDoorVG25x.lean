/-
  The contracts of block's pack, Check, Encode. · The contract of block's pack.
-/
import Derived.Test.YtlefdnjokppibaaGreatDoorVBpe
namespace Go.Proofs.YtlefdnjokppibaaGreatDoor.Sh
open Go Go.RowKit Math Mt
set_option linter.unusedVariables false
set_option linter.unusedSimpArgs false
theorem Tryz.infoPk : (Tryz.prog.info? 75).map (fun i => (i.zero, i.size, i.bytes)) = some (some (.agg #[.slice none 0 0, .slice none 0 0, .int .i64 0]), 3, 56) := by kernel_rfl
theorem app_pk {ops : Array Oper} {rest : List Oper} {o : Oper} {a : Act} {Q : Exit → Act → World → Prop} {w : World} (hgd : o.guard = none) (s x : Operand)
    (ho : o.op = .call { callee := .builtin .append, args := #[s, x], argTypes := #[64, 64] })
    (base : Nat) (v : Value) (n : Nat) (xs : List Value) (hs : a.eval s = v) (hown : w.ownsRow base 75 3 v n xs) (b : Nat) (m c : Nat) (news : List Value) (hx : a.eval x = .slice (some ⟨b, 0, none⟩) m c) (hl : news.length = m * 3) (hc : ∀ j u, news[j]? = some u → w.cell? ⟨b, j, none⟩ = some u) (h1 : ∀ u ∈ news, u.oneCell' = true)
    (hb : n + m ≤ 100000) (hbase : base ≤ w.heap.size)
    (h : ∀ v' w', w'.ownsRow base 75 3 v' (n + m) (xs ++ news) → w.grownBy w' v.ownBlock → wpList Tryz.prog ops Q rest (a.put o.dst v') w') : wpList Tryz.prog ops Q (o :: rest) a w := by
  obtain ⟨i, hi, hz0, hz1, hz2⟩ := info_parts Tryz.infoPk
  refine wpList_append_own_at _ hgd s x 64 ho base 75 i _ 3 56 Tryz.underlying64 hi hz0 hz1 hz2 rfl (by decide) v _ _ hs hown ⟨b, 0, none⟩ m c news hx hl (fun j u hj => by rw [Addr.add_lit, Nat.zero_add]; exact hc j u hj) h1 (by unfold maxLen; omega) (by omega) hbase ?_
  intro v' w' h1 h2 _ _
  exact h v' w' h1 h2
def e0 : En := ⟨0, ⟨#[]⟩, 0, 0, 0, nv, zr, false, 0, 0⟩
theorem zEn : (Tryz.prog.info? 45).map (fun i => i.zero.map (·.cells)) = some (some (eC e0 none 0 none 0).toArray) := by kernel_rfl
def triP (p : Pk) : List Nat × List Nat × Int := (p.ol, p.dl, p.k)
def triE (e : En) : List Nat × List Nat × Int := (entB e, datL e, e.k)
theorem pkB_itm {p : Pk} {e : En} (h : triP p = triE e) (d : Bool) : pkB d p = itmB d e := by
  unfold triP triE at h
  injection h with h1 h2
  injection h2 with h2 h3
  unfold pkB itmB tail tlB
  rw [h1, h2, h3]
theorem pks_itm (d : Bool) : ∀ {ps : List Pk} {es : List En}, ps.map triP = es.map triE → ps.flatMap (pkB d) = es.flatMap (itmB d)
  | [], [], _ => rfl
  | p :: ps, e :: es, h => by
    simp only [List.map_cons, List.cons.injEq] at h
    simp only [List.flatMap_cons, pkB_itm h.1 d, pks_itm d h.2]
  | [], e :: es, h => by simp at h
  | p :: ps, [], h => by simp at h
theorem own_pk {w : World} {p : Pk} {e : En} {B : Nat} (ho : Own w B (.slice p.oa p.ol.length p.oc) p.ol) (hd : Own w B (.slice p.da p.dl.length p.dc) p.dl) (ht : triP p = triE e) (he : EnW e) (hm : mayE e = 0) : PkO w p := by
  unfold triP triE at ht
  injection ht with h1 h2
  injection h2 with h2 h3
  obtain ⟨a, c, e1, b1, n1, c1, _⟩ := ho.byt
  obtain ⟨a2, c2, e2, b2, n2, c3, _⟩ := hd.byt
  injection e1 with q1 _ q2
  injection e2 with q3 _ q4
  have l1 := ent_len he (may_form hm).num
  have l2 := dat_ok hm
  subst q1 q2 q3 q4
  exact ⟨b1, n1, b2, n2, c3, c1, by rw [h1]; omega, by rw [h2]; exact l2.2.1, by rw [h1]; exact ent_oct he (may_form hm).num⟩
/-- While the entries are packed. -/
structure PInv (w wr : World) (gb : Nat) (b : Bk) (a : Option Addr) (c : Nat) (v : Value) (k : Nat) (ps : List Pk) : Prop where
  row : wr.ownsRow w.heap.size 75 3 v ps.length (ps.flatMap pC)
  own : ∀ p ∈ ps, Own wr w.heap.size (.slice p.oa p.ol.length p.oc) p.ol ∧ Own wr w.heap.size (.slice p.da p.dl.length p.dc) p.dl
  bl : Below w.heap.size w wr
  blk : Blk wr gb 26 (bC b a c)
  eq : ps.map triP = (b.es.take k).map triE
  fst : fstE (b.es.take k) = 0
theorem row_ne_blk {w : World} {B b n : Nat} {t : TypeId} {v : Value} {xs vs : List Value} (h : w.ownsRow B 75 3 v n xs) (hb : Blk w b t vs) (ht : t ≠ 75) : v.ownBlock ≠ some b := fun e => by
  rcases h with ⟨_, ⟨rfl, _⟩ | ⟨g, cap, cur, rfl, _, hh, _⟩⟩
  · cases e
  · simp only [Value.ownBlock, Option.some.injEq] at e
    subst e
    unfold Blk at hb
    rw [hb] at hh
    injection hh with hh
    injection hh with _ h2
    exact ht h2
theorem row_ne_own {w : World} {B B' n : Nat} {v u : Value} {xs : List Value} {l : List Nat} (h : w.ownsRow B 75 3 v n xs) (ho : Own w B' u l) : ∀ x, v.ownBlock = some x → u.ownBlock ≠ some x := fun x e1 e2 => by
  rcases ho with ⟨_, ⟨rfl, _⟩ | ⟨g, cap, cur, rfl, _, hh, _⟩⟩
  · cases e2
  · simp only [Value.ownBlock, Option.some.injEq] at e2
    subst e2
    rcases h with ⟨_, ⟨rfl, _⟩ | ⟨g', cap', cur', rfl, _, hh', _⟩⟩
    · cases e1
    · simp only [Value.ownBlock, Option.some.injEq] at e1
      subst e1
      rw [hh] at hh'
      injection hh' with hh'
      injection hh' with _ h2
      exact absurd h2 (by decide)
theorem own_keepr {w w' : World} {B n : Nat} {B' : Nat} {v u : Value} {xs : List Value} {l : List Nat} (h : w.ownsRow B 75 3 v n xs) (ho : Own w B' u l) (G : w.grownBy w' v.ownBlock) : Own w' B' u l := by
  cases hv : v.ownBlock with
  | none =>
    rw [hv] at G
    exact World.ownsRow.kept (row := none) ho G (by cases u.ownBlock <;> simp)
  | some x =>
    rw [hv] at G
    exact own_keepn ho G (row_ne_own h ho x hv)
theorem flat_pk : ∀ (ps : List Pk) (i : Nat) (p : Pk) (j : Nat) (u : Value), ps[i]? = some p → (pC p)[j]? = some u → (ps.flatMap pC)[i * 3 + j]? = some u
  | [], i, p, j, u, hp, _ => by simp at hp
  | x :: r, 0, p, j, u, hp, hj => by
    obtain rfl : x = p := by simpa using hp
    have hj3 : j < (pC x).length := (List.getElem?_eq_some_iff.1 hj).1
    rw [List.flatMap_cons, List.getElem?_append_left (by omega)]
    simpa using hj
  | x :: r, i + 1, p, j, u, hp, hj => by
    have ih := flat_pk r i p j u (by simpa using hp) hj
    have h3 : (pC x).length = 3 := rfl
    rw [List.flatMap_cons, List.getElem?_append_right (by omega), ← ih]
    congr 1
    omega
theorem row_pkm {w : World} {B : Nat} {v : Value} {ps : List Pk} (h : w.ownsRow B 75 3 v ps.length (ps.flatMap pC)) (ho : ∀ p ∈ ps, PkO w p) : ∃ a c, v = .slice a ps.length c ∧ PkM w a ps := by
  have h' := h
  rcases h with ⟨_, ⟨rfl, h0⟩ | ⟨g, cap, cur, rfl, _, hh, _⟩⟩
  · have : ps = [] := List.eq_nil_of_length_eq_zero h0
    subst this
    exact ⟨none, 0, rfl, .inl rfl⟩
  · refine ⟨_, cap, rfl, .inr ⟨g, 0, rfl, fun i p hp => ⟨fun j u hj => ?_, ho p (List.mem_of_getElem? hp)⟩⟩⟩
    have e := flat_pk ps i p j u hp hj
    rw [Nat.zero_add]
    have hc := World.ownsRow.cells h' (g := g) rfl (i * 3 + j) u e
    rw [Addr.add_lit, Nat.zero_add] at hc
    exact hc
/-- What pack answers. -/
structure PaR (w w' : World) (b : Bk) (v : Value) : Prop where
  bl : Below w.heap.size w w'
  ok : chkB b = 0 → ∃ (ps : List Pk) (ae : Option Addr) (ce : Nat), v = .slice ae ps.length ce ∧ PkM w' ae ps ∧ ps.map triP = b.es.map triE
end Go.Proofs.YtlefdnjokppibaaGreatDoor.Sh
namespace Go.Proofs.YtlefdnjokppibaaGreatDoor.Sh
open Go Go.RowKit Math Mt
set_option linter.unusedVariables false
set_option linter.unusedSimpArgs false
set_option maxHeartbeats 400000 in
set_option maxRecDepth 8000 in
theorem pack_any (b : Bk) (hb : BkW b) (hws : ∀ e ∈ b.es, Lk e.v) (a : Option Addr) (c : Nat) (w : World) (hE : EsM w a b.es) :
    Calls Tryz.prog 28 #[.agg (bC b a c).toArray] w fun e w' => ∃ v, e = .returned (.tuple #[v, .int .i64 (chkB b)]) ∧ Hid (PaR w w' b v) := by
  have HL : Hid (b.pv.length = 32) := hb.pv.1
  have HB : Hid (BkW b) := hb
  have HE : Hid (EsM w a b.es) := hE
  have HW : Hid (∀ e ∈ b.es, Lk e.v) := hws
  obtain ⟨R, hR⟩ : ∃ R, Hid (chkB b = R) := ⟨_, rfl⟩
  rw [hR.out]
  have HN : Hid (∀ w' v, Below w.heap.size w w' → R ≠ 0 → PaR w w' b v) := fun w' v h1 h2 => ⟨h1, fun h => by rw [hR.out] at h; exact absurd h h2⟩
  have hlen := hb.len
  clear hb hE hws
  go_enter Tryz.func28, Tryz.ntmps28
  go_wp2_with (refine al_box rfl 26 (.tmp 0) rfl (bC b a c) rfl ?_)
  intro gb w1 l1 BB G0
  have Z := (Below.refl w.heap.size w).grown G0 (Nat.le_refl _) (by simp)
  clear G0
  obtain ⟨t, ht⟩ : ∃ t, Hid (decide (HeadP b (b.es.length : Int)) = t) := ⟨_, rfl⟩
  have KR := head_any b HB.out a c (b.es.length : Int) w1
  rw [ht.out] at KR
  have ce := (bkF_of HL.out BB).es
  go_wp2_with (refine ld_w (by rfl) 26 (.tmp 1) rfl gb 0 rfl (bC b a c) _ BB.all Tryz.underlying26 rfl (sB HL.out _ _) ?_)
  refine KR.mono ?_
  rintro e w2 ⟨rfl, Z0⟩
  have BB := BB.below Z0 BB.lt
  have Z := Z.trans (Z0.mono Z.size)
  clear KR Z0 ce
  cases t with
  | false =>
    obtain rfl : R = 1 := by rw [← hR.out]; exact chk_head (of_decide_eq_false ht.out)
    have HF : Hid (PaR w w2 b (.slice none 0 0)) := HN.out _ _ Z (by decide)
    clear BB Z HN
    go_wp2
    go_ret2
    exact ⟨_, rfl, HF.out⟩
  | true =>
  have HH : Hid (HeadP b (b.es.length : Int)) := by show HeadP b (b.es.length : Int); exact of_decide_eq_true ht.out
  have h200 : b.es.length ≤ 200 := by have := HH.out.2.2.2.2; omega
  have ce := (bkF_of HL.out BB).es
  have HI0 : Hid (PInv w w2 gb b a c (.slice none 0 0) 0 []) := ⟨World.ownsRow_nil _ _ _ _, by simp, Z, BB, rfl, rfl⟩
  clear BB Z ht
  go_wp2
  clear ce
  go_loopw [4, 8, 18] (fun vo _ i wr => ∃ (k : Nat) (ps : List Pk), k ≤ b.es.length ∧ i = .int .i64 (k : Int) ∧ Hid (PInv w wr gb b a c vo k ps)) (fun _ _ i _ => b.es.length - (intOf i).toNat)
  case atStart => exact ⟨0, [], by omega, rfl, HI0.out⟩
  case round =>
    clear HI0
    obtain ⟨k, ps, hk, rfl, HK⟩ := hrel
    have zr := HK.out.bl.size
    by_cases hlt : k < b.es.length
    case neg =>
      have hps : Hid (ps.map triP = b.es.map triE) := by have := HK.out.eq; rw [List.take_of_length_le (by omega)] at this; exact this
      have hfs : Hid (fstE b.es = 0) := by have := HK.out.fst; rw [List.take_of_length_le (by omega)] at this; exact this
      have hpl : Hid (ps.length = b.es.length) := by have := congrArg List.length hps.out; show _ = _; simpa only [List.length_map] using this
      have HPO : Hid (∀ p ∈ ps, PkO wr p) := fun p hp => by
        obtain ⟨o1, o2⟩ := HK.out.own p hp
        obtain ⟨i, hi⟩ := List.getElem?_of_mem hp
        obtain ⟨e, he⟩ : ∃ e, b.es[i]? = some e := ⟨_, List.getElem?_eq_getElem (by have := (List.getElem?_eq_some_iff.1 hi).1; have := hpl.out; omega)⟩
        have ht : triP p = triE e := by
          have := congrArg (fun l => l[i]?) hps.out
          simp only [List.getElem?_map, hi, he, Option.map_some, Option.some.injEq] at this
          exact this
        exact own_pk o1 o2 ht (HB.out.es e (List.mem_of_getElem? he)) (fst_all hfs.out e (List.mem_of_getElem? he))
      obtain ⟨ae, ce, rfl, hM⟩ := row_pkm HK.out.row HPO.out
      have HM : Hid (PkM wr ae ps) := hM
      have KB := bby_any b HB.out a c ps (by have := hpl.out; omega) ae ce true wr hM
      have BB := HK.out.blk
      have heq : Hid (hedB b ++ uv ps.length ++ ps.flatMap (pkB true) = blkB b true) := by show _ = _; unfold blkB; rw [pks_itm true hps.out, hpl.out]
      rw [heq.out] at KB
      have HO : Hid (Below w.heap.size w wr) := HK.out.bl
      have hbl : (blkB b true).length ≤ 15000000 := by
        have h1 := itms_len true HB.out.es (fst_all hfs.out)
        have h2 := hed_len HB.out
        have h3 := uv_ten b.es.length (by omega)
        unfold blkB
        simp only [List.length_append]
        omega
      clear HK hM
      go_wp2_with (refine ld_w (by rfl) 26 (.tmp 1) rfl gb 0 rfl (bC b a c) _ BB.all Tryz.underlying26 rfl (sB HL.out _ _) ?_)
      refine KB.mono ?_
      rintro e w5 ⟨v5, rfl, O5, Z0⟩
      obtain ⟨ax, cx, rfl, _, _, _, _⟩ := O5.byt
      have HZ : Hid (Below w.heap.size w w5) := HO.out.trans (Z0.mono zr)
      have HM5 : Hid (PkM w5 ae ps) := HM.out.below Z0
      clear KB O5 Z0 BB
      by_cases hL : 262144 < (blkB b true).length
      · obtain rfl : R = 5 := by rw [← hR.out]; exact chk_long HH.out hfs.out hL
        have hLb : decide ((262144 : Int) < ((blkB b true).length : Int)) = true := decide_eq_true (by omega)
        have HF : Hid (PaR w w5 b (.slice none 0 0)) := HN.out _ _ HZ.out (by decide)
        clear HN hL
        go_wp2
        go_ret2
        exact ⟨_, rfl, HF.out⟩
      · obtain rfl : R = 0 := by rw [← hR.out]; exact chk_yes HH.out hfs.out hL
        have hLb : decide ((262144 : Int) < ((blkB b true).length : Int)) = false := decide_eq_false (by omega)
        have HF : Hid (PaR w w5 b (.slice ae ps.length ce)) := ⟨HZ.out, fun _ => ⟨ps, ae, ce, rfl, HM5.out, hps.out⟩⟩
        clear HN hL
        go_wp2
        go_ret2
        exact ⟨_, rfl, HF.out⟩
    obtain ⟨e, he⟩ : ∃ e, b.es[k]? = some e := ⟨_, List.getElem?_eq_getElem hlt⟩
    obtain ⟨bb, oo, na, nc, ka, kc, rfl, hM⟩ := HE.out.get he
    have hmem := List.mem_of_getElem? he
    have HEW : Hid (EnW e) := HB.out.es e hmem
    have HWS : Hid (Lk e.v) := HW.out e hmem
    have rl := range_below hM.at' HK.out.bl
    have HVL : Hid (Vl wr e.v na nc ka kc) := hM.vl.below HK.out.bl
    have HT : Hid (b.es.take (k + 1) = b.es.take k ++ [e]) := by
      obtain ⟨h1, h2⟩ := List.getElem?_eq_some_iff.1 he
      show _ = _
      rw [List.take_succ_eq_append_getElem h1, h2]
    have HS : Hid (b.es = (b.es.take k ++ [e]) ++ b.es.drop (k + 1)) := by show _ = _; rw [← HT.out, List.take_append_drop]
    have hpk : Hid (ps.length = k) := by show _ = _; have := congrArg List.length HK.out.eq; simp only [List.length_map, List.length_take] at this; omega
    have HSz : Hid ((eC e na nc ka kc).length = (eC e0 none 0 none 0).length) := by show _ = _; rw [eC_len HEW.out.h.1, eC_len rfl]
    clear hM he hmem
    go_wp2_with (first | (refine ld_w (by rfl) 45 (.tmp 20) rfl bb (oo + k * 46) (by first | rfl | simp [Act.eval]) (eC e na nc ka kc) _ rl Tryz.underlying45 rfl (sE HEW.out.h.1 _ _ _ _) ?_) | (refine al_zero rfl 45 rfl (eC e0 none 0 none 0) zEn ?_))
    intro g6 w6 hg6 B6 G6
    have Z6 := (Below.refl wr.heap.size wr).grown G6 (Nat.le_refl _) (by simp)
    clear G6 rl
    go_wp2_with (refine st_all rfl 45 (.tmp 6) (.tmp 21) rfl g6 45 (eC e0 none 0 none 0) (eC e na nc ka kc) rfl rfl B6 HSz.out (sE HEW.out.h.1 _ _ _ _) (eC_one _ _ _ _ _) ?_)
    intro w7 B7 G7
    have Z7 := Sh.grown_below Z6 G7 Z6.size hg6
    clear G7 B6 Z6
    have KP := pke_any e HEW.out HWS.out na nc ka kc w7 (HVL.out.below Z7)
    go_wp2_with (refine ld_w (by rfl) 45 (.tmp 6) rfl g6 0 rfl (eC e na nc ka kc) _ B7.all Tryz.underlying45 rfl (sE HEW.out.h.1 _ _ _ _) ?_)
    refine KP.mono ?_
    rintro e' w8 ⟨p, rfl, HP⟩
    have Z8 := Z7.trans (HP.out.bl.mono Z7.size)
    have z7 := Z7.size
    obtain ⟨M, hM⟩ : ∃ M, Hid (mayE e = M) := ⟨_, rfl⟩
    have HPK' := HP.out.ok
    rw [hM.out] at HPK' ⊢
    clear KP B7 HP
    have HPK : Hid (M = 0 → Own w8 w7.heap.size (.slice p.oa p.ol.length p.oc) p.ol ∧ Own w8 w7.heap.size (.slice p.da p.dl.length p.dc) p.dl ∧ p.ol = entB e ∧ p.dl = datL e ∧ p.k = e.k) := HPK'
    clear HPK'
    have z8 := Z8.size
    go_wp2_with (refine al_zero rfl 75 rfl pZ zK ?_)
    intro g9 w9 hg9 B9 G9
    have Z9 := (Below.refl w8.heap.size w8).grown G9 (Nat.le_refl _) (by simp)
    clear G9
    go_wp2_with (refine st_all rfl 75 (.tmp 7) (.tmp 25) rfl g9 75 pZ (pC p) rfl rfl B9 rfl (szK p) (pC_one p) ?_)
    intro w10 B10 G10
    have Z10 := Sh.grown_below Z9 G10 Z9.size hg9
    have ZZ : Hid (Below wr.heap.size wr w10) := Z8.trans (Z10.mono z8)
    have HZ10 : Hid (Below w8.heap.size w8 w10) := Z10
    have d0 : w10.cell? ⟨g9, 0, none⟩ = some (.slice p.oa p.ol.length p.oc) := B10.cell 0
    have d1 : w10.cell? ⟨g9, 1, none⟩ = some (.slice p.da p.dl.length p.dc) := B10.cell 1
    have d2 : w10.cell? ⟨g9, 2, none⟩ = some (.int .i64 p.k) := B10.cell 2
    clear G10 B9 Z9 Z10 Z8 Z7 B10 HVL HSz
    by_cases hm0 : M = 0
    case neg =>
      obtain rfl : R = M := by
        rw [← hR.out, ← hM.out]
        have hmm : mayE e ≠ 0 := by rw [hM.out]; exact hm0
        have e1 : fstE b.es = mayE e := by
          rw [HS.out, List.append_assoc, fst_app HK.out.fst]
          show (if mayE e ≠ 0 then mayE e else _) = _
          rw [if_pos hmm]
        rw [← e1]
        exact chk_may HH.out (by rw [e1]; exact hmm)
      have hmb : (R != 0) = true := by simpa using hm0
      have HF : Hid (PaR w w10 b (.slice none 0 0)) := HN.out _ _ (HK.out.bl.trans (ZZ.out.mono zr)) hm0
      clear HN HPK d0 d1 d2 HK ZZ HZ10 hm0
      go_wp2
      go_ret2
      exact ⟨_, rfl, HF.out⟩
    subst hm0
    obtain ⟨o1, o2, hq⟩ := HPK.out rfl
    have HQ : Hid (p.ol = entB e ∧ p.dl = datL e ∧ p.k = e.k) := hq
    clear hq
    have O1 := own_mono (o1.below HZ10.out) (B' := w.heap.size) (by omega)
    have O2 := own_mono (o2.below HZ10.out) (B' := w.heap.size) (by omega)
    have z10 := ZZ.out.size
    have HRow : Hid (w10.ownsRow w.heap.size 75 3 u4 ps.length (ps.flatMap pC)) := World.ownsRow.kept (row := none) HK.out.row ⟨ZZ.out.os, ZZ.out.tape, ZZ.out.output, ZZ.out.size, fun x hx _ => ZZ.out.block x hx⟩ (by cases u4.ownBlock <;> simp)
    have HOs : Hid (∀ q ∈ ps ++ [p], Own w10 w.heap.size (.slice q.oa q.ol.length q.oc) q.ol ∧ Own w10 w.heap.size (.slice q.da q.dl.length q.dc) q.dl) := fun q hq => by
      rcases List.mem_append.1 hq with hq | hq
      · exact ⟨(HK.out.own q hq).1.below ZZ.out, (HK.out.own q hq).2.below ZZ.out⟩
      · rw [List.mem_singleton.1 hq]; exact ⟨O1, O2⟩
    have HB10 : Hid (Blk w10 gb 26 (bC b (some ⟨bb, oo, none⟩) c)) := HK.out.blk.below ZZ.out HK.out.blk.lt
    have hmb : ((0 : Int) != 0) = false := rfl
    clear o1 o2 O1 O2 HPK
    go_wp2_with (at_builtin; go_must (refine app_pk rfl (.tmp 30) (.tmp 32) rfl w.heap.size u4 ps.length (ps.flatMap pC) rfl (HRow.out.alloc _) w10.heap.size 1 1 (pC p) rfl rfl (fun j u hj => by rw [World.cell?_alloc_new]; show (pC p).toArray[j]? = some u; rw [List.getElem?_toArray]; exact hj) (pC_one p) (by have := hpk.out; omega) (by simp; omega) ?_))
    intro v11 w11 R11 G11
    have HI : Hid (PInv w w11 gb b (some ⟨bb, oo, none⟩) c v11 (k + 1) (ps ++ [p])) := by
      have hra := HRow.out.alloc (.cells (pC p).toArray 75)
      refine ⟨?_, fun q hq => ?_, ?_, ?_, ?_, ?_⟩
      · rw [List.length_append, List.length_singleton, List.flatMap_append]
        simpa using R11
      · obtain ⟨o1, o2⟩ := HOs.out q hq
        exact ⟨own_keepr hra (o1.alloc _) G11, own_keepr hra (o2.alloc _) G11⟩
      · exact ((HK.out.bl.trans (ZZ.out.mono zr)).alloc (by omega) _).grown G11 (by simp; omega) (fun x hx => (World.ownsRow.lt hra x hx).1)
      · exact (HB10.out.alloc _).kept G11 (fun x => row_ne_blk hra (HB10.out.alloc _) (by decide) x.symm)
      · rw [HT.out, List.map_append, List.map_append, HK.out.eq]
        congr 1
        show [triP p] = [triE e]
        unfold triP triE
        rw [HQ.out.1, HQ.out.2.1, HQ.out.2.2]
      · rw [HT.out, fst_snoc HK.out.fst, hM.out]
    clear R11 G11 HRow HOs HB10 d0 d1 d2
    go_wp2
    go_roundw
    case rel => exact ⟨k + 1, _, by omega, by go_num, HI.out⟩
    case measure => simp [intOf]; omega
set_option maxHeartbeats 1000000 in
set_option maxRecDepth 8000 in
theorem check_any (b : Bk) (hb : BkW b) (hws : ∀ e ∈ b.es, Lk e.v) (a : Option Addr) (c : Nat) (w : World) (hE : EsM w a b.es) :
    Calls Tryz.prog 10 #[.agg (bC b a c).toArray] w fun e w' => e = .returned (.int .i64 (chkB b)) ∧ Below w.heap.size w w' := by
  have HL : Hid (b.pv.length = 32) := hb.pv.1
  have K : Hid (∀ W, EsM W a b.es → Calls Tryz.prog 28 #[.agg (bC b a c).toArray] W fun e w' => ∃ v, e = .returned (.tuple #[v, .int .i64 (chkB b)]) ∧ Hid (PaR W w' b v)) := fun W h => pack_any b hb hws a c W h
  have HE : Hid (EsM w a b.es) := hE
  clear hb hE hws
  go_enter Tryz.func10, Tryz.ntmps10
  go_wp2_with (refine al_box rfl 26 (.tmp 0) rfl (bC b a c) rfl ?_)
  intro gb w1 l1 BB G0
  have Z := (Below.refl w.heap.size w).grown G0 (Nat.le_refl _) (by simp)
  clear G0
  have KR := K.out w1 (HE.out.below Z)
  go_wp2_with (refine ld_w (by rfl) 26 (.tmp 1) rfl gb 0 rfl (bC b a c) _ BB.all Tryz.underlying26 rfl (sB HL.out _ _) ?_)
  refine KR.mono ?_
  rintro e w2 ⟨v, rfl, HR⟩
  have ZE := Z.trans (HR.out.bl.mono Z.size)
  clear KR HR BB
  go_wp2
  go_ret
  exact ⟨rfl, ZE⟩
def encL (b : Bk) (data : Bool) : List Nat := if chkB b = 0 then blkB b data else []
set_option maxHeartbeats 1000000 in
set_option maxRecDepth 8000 in
theorem enc_any (b : Bk) (hb : BkW b) (hws : ∀ e ∈ b.es, Lk e.v) (a : Option Addr) (c : Nat) (data : Bool) (w : World) (hE : EsM w a b.es) :
    Calls Tryz.prog 41 #[.agg (bC b a c).toArray, .bool data] w fun e w' => ∃ v, e = .returned (.tuple #[v, .int .i64 (chkB b)]) ∧ Hid (Own w' w.heap.size v (encL b data) ∧ Below w.heap.size w w') := by
  have HL : Hid (b.pv.length = 32) := hb.pv.1
  have HB : Hid (BkW b) := hb
  have K : Hid (∀ W, EsM W a b.es → Calls Tryz.prog 28 #[.agg (bC b a c).toArray] W fun e w' => ∃ v, e = .returned (.tuple #[v, .int .i64 (chkB b)]) ∧ Hid (PaR W w' b v)) := fun W h => pack_any b hb hws a c W h
  have HE : Hid (EsM w a b.es) := hE
  have H0 : Hid (chkB b = 0 → b.es.length ≤ 200 ∧ encL b data = blkB b data) := fun h => ⟨by have := (chk_zero h).1.2.2.2.2; omega, by unfold encL; rw [if_pos h]⟩
  have H1 : Hid (chkB b ≠ 0 → encL b data = []) := fun h => by unfold encL; rw [if_neg h]
  have HQ : Hid (∀ W W' v, PaR W W' b v → chkB b = 0 → ∃ (ps : List Pk) (ae : Option Addr) (ce : Nat), v = .slice ae ps.length ce ∧ PkM W' ae ps ∧ ps.map triP = b.es.map triE) := fun W W' v h => h.ok
  obtain ⟨R, hR⟩ : ∃ R, Hid (chkB b = R) := ⟨_, rfl⟩
  rw [hR.out] at K H0 H1 HQ ⊢
  clear hb hE hws hR
  go_enter Tryz.func41, Tryz.ntmps41
  go_wp2_with (refine al_box rfl 26 (.tmp 0) rfl (bC b a c) rfl ?_)
  intro gb w1 l1 BB G0
  have Z := (Below.refl w.heap.size w).grown G0 (Nat.le_refl _) (by simp)
  have z1 := Z.size
  clear G0
  have KR := K.out w1 (HE.out.below Z)
  go_wp2_with (refine ld_w (by rfl) 26 (.tmp 2) rfl gb 0 rfl (bC b a c) _ BB.all Tryz.underlying26 rfl (sB HL.out _ _) ?_)
  refine KR.mono ?_
  rintro e w2 ⟨v, rfl, HR⟩
  have BB := BB.below HR.out.bl BB.lt
  have Z := Z.trans (HR.out.bl.mono Z.size)
  clear KR
  by_cases h0 : R = 0
  case neg =>
    have hb0 : (R != 0) = true := by simpa using h0
    have HF : Hid (Own w2 w.heap.size (.slice none 0 0) (encL b data) ∧ Below w.heap.size w w2) := ⟨by rw [H1.out h0]; exact World.ownsRow_nil _ _ _ _, Z⟩
    clear HR BB h0
    go_wp2
    go_ret2
    exact ⟨_, rfl, HF.out⟩
  subst h0
  obtain ⟨ps, ae, ce, rfl, hM, hps⟩ := HQ.out _ _ _ HR.out (by first | rfl | trivial)
  obtain ⟨h200, hel⟩ := H0.out (by first | rfl | trivial)
  have hpl : ps.length = b.es.length := by have := congrArg List.length hps; simpa only [List.length_map] using this
  have KB := bby_any b HB.out a c ps (by omega) ae ce data w2 hM
  have heq : hedB b ++ uv ps.length ++ ps.flatMap (pkB data) = encL b data := by rw [hel]; unfold blkB; rw [pks_itm data hps, hpl]
  rw [heq] at KB
  have z2 := Z.size
  clear HR hpl heq hel hps hM HQ H0 H1
  go_wp2_with (refine ld_w (by rfl) 26 (.tmp 2) rfl gb 0 rfl (bC b a c) _ BB.all Tryz.underlying26 rfl (sB HL.out _ _) ?_)
  refine KB.mono ?_
  rintro e w3 ⟨v3, rfl, O3, Z0⟩
  have HF : Hid (Own w3 w.heap.size v3 (encL b data) ∧ Below w.heap.size w w3) := ⟨own_mono O3 z2, Z.trans (Z0.mono z2)⟩
  clear KB O3 Z0 BB
  go_wp2
  go_ret2
  exact ⟨_, rfl, HF.out⟩
end Go.Proofs.YtlefdnjokppibaaGreatDoor.Sh
