/-
  The walk of FrameTears.
-/
import Derived.Test.YthgicnfhclfcjaaRw
import Derived.Test.YthgicnfhclfcjaaSw
namespace Go.Proofs.Ythgicnfhclfcjaa
open Go.RowKit Go.ChangeShapes Go.WideShapes Go.Deep Math
set_option linter.unusedVariables false
theorem open_rows_cap {H : Type} {enc : TypeId × Value → H} {W : World} {fuel len cap : Nat} {a : Option Addr} {x : DataW H × List MemPlace} (hf : DataW.trod enc Try.prog W 0 (fun _ => true) true fuel 36 (Value.slice a len cap).cells.toList = some x) : len ≤ cap := by
  rcases open_int_rows Try.underlying36 Try.underlying22 Try.underlying5 (by kernel_rfl) (by kernel_rfl) hf with ⟨hcs, _⟩ | ⟨ad, len', cap', A, L, C, Z, hcs, _, hl, hm, hx, hr⟩
  · simp [Value.cells] at hcs
    omega
  · simp [Value.cells] at hcs
    omega
theorem Try.info3 : (Try.prog.info? 3).map (fun i => (i.zero, i.size, i.bytes)) = some (some (.int .i64 0), 1, 8) := by kernel_rfl
/-- A slice of ints that the call made. -/
def OwnI (w : World) (base : Nat) (v : Value) (l : List Nat) : Prop := w.ownsRow base 3 1 v l.length (l.map fun n : Nat => Value.int .i64 (n : Int))
theorem ownI_nil (w : World) (base : Nat) : OwnI w base (.slice none 0 0) [] := ⟨by simp, .inl ⟨rfl, rfl⟩⟩
theorem OwnI.below {w w' : World} {base : Nat} {v : Value} {l : List Nat} (h : OwnI w base v l) (hb : Below w.heap.size w w') : OwnI w' base v l :=
  World.ownsRow.kept (row := none) h (grown_below hb) (by simpa using Classical.em _)
theorem OwnI.ne {w : World} {base b2 : Nat} {v v2 : Value} {l l2 : List Nat} (h : OwnI w base v l) (h2 : Own w b2 v2 l2) : v.ownBlock = none ∨ v.ownBlock ≠ v2.ownBlock := by
  rcases h with ⟨_, ⟨rfl, _⟩ | ⟨g, cap, cur, rfl, _, hh, _⟩⟩
  · exact .inl rfl
  · right
    rcases h2 with ⟨_, ⟨rfl, _⟩ | ⟨g', cap', cur', rfl, _, hh', _⟩⟩
    · simp [Value.ownBlock]
    · intro e
      simp only [Value.ownBlock, Option.some.injEq] at e
      subst e
      rw [hh] at hh'
      simp at hh'
theorem OwnI.grown {w w' : World} {base b2 : Nat} {v v2 : Value} {l l2 : List Nat} (h : OwnI w base v l) (h2 : Own w b2 v2 l2) (hg : w.grownBy w' v2.ownBlock) : OwnI w' base v l :=
  World.ownsRow.kept h hg (h.ne h2)
theorem Own.grownI {w w' : World} {base b2 : Nat} {v v2 : Value} {l l2 : List Nat} (h : Own w b2 v2 l2) (h2 : OwnI w base v l) (hg : w.grownBy w' v.ownBlock) : Own w' b2 v2 l2 := by
  refine World.ownsRow.kept h hg ?_
  rcases h2.ne h with e | e
  · rw [e]; exact Classical.em _
  · exact .inr (Ne.symm e)
theorem OwnI.shape {w : World} {base : Nat} {v : Value} {l : List Nat} (h : OwnI w base v l) :
    ∃ a c, v = .slice a l.length c ∧ (l = [] ∨ ∃ g, a = some ⟨g, 0, none⟩ ∧ ∀ i, i < l.length → w.cell? ⟨g, i, none⟩ = some (.int .i64 ((l.getD i 0 : Nat) : Int))) := by
  have h' := h
  rcases h with ⟨_, ⟨rfl, h0⟩ | ⟨g, cap, cur, rfl, hg, hh, hle, hm, _⟩⟩
  · have : l = [] := List.eq_nil_of_length_eq_zero h0
    subst this
    exact ⟨none, 0, rfl, .inl rfl⟩
  · refine ⟨_, cap, rfl, .inr ⟨g, rfl, fun i hi => ?_⟩⟩
    rw [World.ownsRow.cellAt h' i (by omega), List.getElem?_map, List.getElem?_eq_getElem hi, List.getD_eq_getElem?_getD, List.getElem?_eq_getElem hi]
    rfl
theorem app_int {ops : Array Oper} {rest : List Oper} {o : Oper} {a : Act} {Q : Exit → Act → World → Prop} {w : World} (hgd : o.guard = none) (s x : Operand)
    (ho : o.op = .call { callee := .builtin .append, args := #[s, x], argTypes := #[44, 44] })
    (base : Nat) (v : Value) (l : List Nat) (hs : a.eval s = v) (hown : OwnI w base v l) (ad : Addr) (n : Nat) (hx : a.eval x = .slice (some ad) 1 1) (hcell : w.cell? ad = some (.int .i64 (n : Int)))
    (hlen : l.length ≤ 1000000) (hbase : base ≤ w.heap.size)
    (h : ∀ v' w', OwnI w' base v' (l ++ [n]) → w.grownBy w' v.ownBlock → wpList Try.prog ops Q rest (a.put o.dst v') w') : wpList Try.prog ops Q (o :: rest) a w := by
  obtain ⟨i, hi, hz0, hz1, hz2⟩ := info_parts Try.info3
  refine wpList_append_own_at _ hgd s x 44 ho base 3 i (.int .i64 0) 1 8 Try.underlying44 hi hz0 hz1 hz2 rfl (by decide) v _ _ hs hown ad 1 1 [.int .i64 (n : Int)] hx rfl ?_ (by simp [Value.oneCell']) (by unfold maxLen; omega) (by omega) hbase ?_
  · intro j u hj
    match j, hj with
    | 0, hj =>
      have : u = .int .i64 (n : Int) := by simpa using hj.symm
      subst this
      obtain ⟨b, off, spot⟩ := ad
      have hs0 : spot = none := World.cell?_spot hcell
      subst hs0
      rw [Addr.add_lit, Nat.add_zero]; exact hcell
    | j + 1, hj => simp at hj
  · intro v' w' h1 h2 _ _
    refine h v' w' ?_ h2
    unfold OwnI
    rw [List.length_append, List.map_append]; exact h1
theorem sl_to {P : Program} {ops : Array Oper} {rest : List Oper} {o : Oper} {a : Act} {w : World} {Q : Exit → Act → World → Prop} (hg : o.guard = none) (T : TypeId) (x y : Operand) (ho : o.op = .slice T x none (some y) none) (elem : TypeId) (hu : P.underlying T = some (.slice elem)) (hsz : ∀ w, (Go.sizeOf elem).run P w = .ok 1 w)
    (A : Option Addr) (len cap n : Nat) (hx : a.eval x = .slice A len cap) (hy : a.eval y = .int .i64 (n : Int)) (hn : n ≤ cap)
    (h : wpList P ops Q rest (a.put o.dst (.slice A n cap)) w) : wpList P ops Q (o :: rest) a w := by
  refine wpList_plain hg fun K hK => ?_
  unfold Oper.wp execOp
  have h0 : (0 : Int) ≤ (n : Int) ∧ (n : Int) ≤ (cap : Int) := ⟨by omega, by omega⟩
  have e : (A.map fun p => p.add 0) = A := by cases A <;> simp [Addr.add]
  have hr : (Instr.sliceAt T (.slice A len cap) none (some (.int .i64 (n : Int))) none).run P w = .ok (.slice A n cap) w := by
    simp [Instr.sliceAt, Instr.slice, Instr.sliceBounds, Instr.sliceBound, asIntOf, run_underlying hu, h0, hsz]
    rw [if_pos hn, e]
    simp
  simp only [ho, hx, hy, Option.map_some, Option.map_none, hr, Sem.run_bind, Result.andThen_ok]
  exact hK _ _ h
/-- Where the k-th record ends. -/
def en (rs : List Rw) (k : Nat) : Nat := (rcds (cont (rs.take k))).length
def ens (rs : List Rw) (k : Nat) : List Nat := (List.range k).map fun i => en rs (i + 1)
theorem ens_succ (rs : List Rw) (k : Nat) : ens rs (k + 1) = ens rs k ++ [en rs (k + 1)] := by simp [ens, List.range_succ]
theorem ens_length (rs : List Rw) (k : Nat) : (ens rs k).length = k := by simp [ens]
theorem ens_get (rs : List Rw) (k i : Nat) (h : i < k) : (ens rs k).getD i 0 = en rs (i + 1) := by
  simp [ens, List.getD_eq_getElem?_getD, h]
theorem en_zero (rs : List Rw) : en rs 0 = 0 := by simp [en, cont, rcds]
/-- What a round of FrameTears' first loop has. -/
def Lt (rs : List Rw) (w : World) (k : Nat) (v v2 : Value) (wr : World) : Prop := Lp rs w k v wr ∧ OwnI wr w.heap.size v2 (ens rs k)
/-- What Scan tells of records that are cut short. -/
theorem tears (rs : List Rw) (n j : Nat) (hn : n ≤ rs.length) (hl : ∀ p ∈ cont rs, p.length ≤ 4000) (h1 : en rs n ≤ j) (h2 : j ≤ en rs rs.length) (h3 : n < rs.length → j < en rs (n + 1)) :
    scan ((rcds (cont rs)).take j) = (cont (rs.take n), en rs n, if j = en rs n then 0 else 2) := by
  by_cases hlt : n < rs.length
  · have e : cont rs = cont (rs.take n) ++ rs[n].2.2 :: cont (rs.drop (n + 1)) := by
      have t := List.take_append_drop n rs
      rw [List.drop_eq_getElem_cons hlt] at t
      have t2 := congrArg cont t
      simp only [cont, List.map_append, List.map_cons] at t2 ⊢
      exact t2.symm
    have e3 : en rs (n + 1) = en rs n + (rcd rs[n].2.2).length := by
      unfold en
      rw [cont_snoc rs n (x := rs[n].1) (y := rs[n].2.1) (l := rs[n].2.2) (List.getElem?_eq_getElem hlt), rcds_snoc, List.length_append]
    have := scan_tears (cont (rs.take n)) rs[n].2.2 (cont (rs.drop (n + 1))) j (fun q hq => by rw [← e] at hq; have := hl q hq; omega) h1 (by have := h3 hlt; unfold en at *; omega)
    rw [← e] at this
    exact this
  · have hne : n = rs.length := by omega
    subst hne
    have hj : j = en rs rs.length := by omega
    have e : (rcds (cont rs)).take j = rcds (cont rs) := List.take_of_length_le (by rw [hj]; unfold en; rw [List.take_length]; exact Nat.le_refl _)
    rw [e, if_pos hj, List.take_length]
    have := scan_rcds (cont rs) [] (fun p hp => by have := hl p hp; omega)
    rw [List.append_nil] at this
    rw [this, scan_nil rfl]
    simp [en, List.take_length]
set_option maxHeartbeats 4000000 in
theorem tears_walk (a0 : Option Addr) (cap0 : Nat) (rs : List Rw) (a1 : Int) (w : World) (hrs : Rws w a0 rs) (hlen : rs.length * 24 ≤ 140737488351232) (hcap : rs.length ≤ cap0) :
    Calls Try.prog 7 #[.slice a0 rs.length cap0, .int .i64 a1] w fun e w' => e = .returned (.bool true) ∧ Below w.heap.size w w' := by
  obtain ⟨kk, hkk, hk30⟩ : ∃ k : Nat, bits .and .i64 a1 1073741823 = (k : Int) ∧ k < 1073741824 :=
    ⟨(a1 % 1073741824).toNat, by rw [and30]; omega, by omega⟩
  go_enter Try.func7, Try.ntmps7
  go_wp2
  go_loopw [5, 6, 7] (fun v v2 i wr => ∃ k : Nat, k ≤ rs.length ∧ i = .int .i64 k ∧ Hid (Lt rs w k v v2 wr)) (fun _ _ i _ => rs.length - (intOf i).toNat)
  case atStart => exact ⟨0, by omega, rfl, ⟨own_nil _ _, Below.refl _ _, by simp [cont, rcds], by simp [cont]⟩, ownI_nil _ _⟩
  case round =>
    obtain ⟨k, hk, rfl, HI⟩ := hrel
    by_cases hlt : k < rs.length
    · obtain ⟨b, off, x, y, l, rfl, hrk, _, _⟩ := hrs.row hlt
      have hrs' := hrs.below HI.out.1.2.1
      obtain ⟨_, _, x', y', l', e1, e2, hcell, hrow⟩ := hrs'.row hlt
      injection e1 with e1
      injection e1 with e1 e3
      subst e1 e3
      rw [hrk] at e2
      injection e2 with e2
      injection e2 with e2 e3
      injection e3 with e3 e4
      subst e2 e3 e4
      have HRow : Hid (RowAt wr (x, y, l)) := hrow
      have hll := hrow.len
      simp only at hll
      clear hrow hrs' hrs
      by_cases hbig : 4000 < l.length
      · have HB : Hid (Below w.heap.size w wr) := HI.out.1.2.1
        clear HI
        go_wp2
        go_ret
        exact ⟨rfl, HB.out⟩
      have HE : Hid (Calls Try.prog 10 #[.slice x l.length y] wr fun e w' => ∃ g c, e = .returned (.tuple #[.slice (some ⟨g, 0, none⟩) (l.length + 12) c, .int .i64 0]) ∧ Own w' wr.heap.size (.slice (some ⟨g, 0, none⟩) (l.length + 12) c) (rcd l) ∧ Below wr.heap.size wr w') :=
        enc_any x y l (by omega) wr HRow.out.byt HRow.out.oct HRow.out.nil
      go_wp2_with fail
      refine HE.out.mono ?_
      rintro e w1 ⟨g, c, rfl, o1, d1⟩
      clear HE HRow
      have hrl := rcd_length l
      obtain ⟨HLp, HEn⟩ := HI.out
      have hRl := HLp.2.2.1
      have hk12 : k * 12 ≤ 4000 := by
        have := rcds_len (cont (rs.take k))
        have e : (cont (rs.take k)).length = k := by simp [cont]; omega
        omega
      have oA : Own w1 w.heap.size u5 (rcds (cont (rs.take k))) := HLp.1.below d1
      have bA : Below w.heap.size w w1 := HLp.2.1.trans (d1.mono HLp.2.1.size)
      have iA : OwnI w1 w.heap.size u6 (ens rs k) := HEn.below d1
      have cB : Byt w1 (some ⟨g, 0, none⟩) (rcd l) := .inr ⟨g, 0, rfl, own_cells o1 (by omega)⟩
      have hen : en rs (k + 1) = (rcds (cont (rs.take k)) ++ rcd l).length := by unfold en; rw [cont_snoc rs k hrk, rcds_snoc]
      have HN : Hid (∀ v' v2 w', Own w' w.heap.size v' (rcds (cont (rs.take k)) ++ rcd l) → OwnI w' w.heap.size v2 (ens rs k ++ [(rcds (cont (rs.take k)) ++ rcd l).length]) → Below w.heap.size w w' → (rcds (cont (rs.take k)) ++ rcd l).length ≤ 4000 → Lt rs w (k + 1) v' v2 w') := fun v' v2 w' o i b hle =>
        ⟨HLp.next hrk (by omega) o b hle, by rw [ens_succ, hen]; exact i⟩
      have hel := ens_length rs k
      clear HI o1 d1 HLp HEn hen
      generalize rcds (cont (rs.take k)) = A at *
      generalize rcd l = B at *
      generalize ens rs k = E at *
      have HOA : Hid (Own w1 w.heap.size u5 A) := oA
      have HIA : Hid (OwnI w1 w.heap.size u6 E) := iA
      have sA := bA.size
      clear oA iA hrk
      go_wp2_with (at_builtin; go_must (refine app_bytes rfl (.tmp 38) (.tmp 39) rfl w.heap.size _ A rfl HOA.out _ _ _ B hrl.symm rfl cB (by simp) (by omega) sA ?_))
      intro v2 w2 o2 g2
      have b2 := below_app bA sA HOA.out g2
      have i2 := HIA.out.grown HOA.out g2
      obtain ⟨x2, c2, rfl, _⟩ := o2.shape
      clear g2 HOA bA sA cB HIA
      by_cases hle : (A ++ B).length ≤ 4000
      · have s2 := b2.size
        have HO2 : Hid (Own (w2.alloc (.cells #[.int .i64 (((A ++ B).length : Nat) : Int)] 3)) w.heap.size (.slice x2 (A ++ B).length c2) (A ++ B)) := o2.alloc _
        have HI2 : Hid (OwnI (w2.alloc (.cells #[.int .i64 (((A ++ B).length : Nat) : Int)] 3)) w.heap.size u6 E) := i2.below ((Below.refl _ _).alloc (Nat.le_refl _) _)
        have HB2 : Hid (Below w.heap.size w (w2.alloc (.cells #[.int .i64 (((A ++ B).length : Nat) : Int)] 3))) := b2.alloc s2 _
        have HF : Hid (∀ v' w', OwnI w' w.heap.size v' (E ++ [(A ++ B).length]) → (w2.alloc (.cells #[.int .i64 (((A ++ B).length : Nat) : Int)] 3)).grownBy w' u6.ownBlock → Lt rs w (k + 1) (.slice x2 (A ++ B).length c2) v' w') := fun v' w' i g =>
          HN.out _ v' w' (HO2.out.grownI HI2.out g) i (HB2.out.grown g HB2.out.size (fun q hq => (World.ownsRow.lt HI2.out q hq).1)) hle
        clear HN o2 b2 i2 HO2 HB2
        generalize (A ++ B).length = n at *
        go_wp2_with (at_builtin; go_must (refine app_int rfl (.tmp 44) (.tmp 47) rfl w.heap.size u6 E rfl HI2.out _ n rfl (by simp [go_sem]) (by omega) (by simp; omega) ?_))
        intro v3 w3 i3 g3
        have HL : Hid (Lt rs w (k + 1) (.slice x2 n c2) v3 w3) := HF.out v3 w3 i3 g3
        clear i3 g3 HF HI2
        go_wp2
        go_roundw
        case rel => exact ⟨k + 1, by omega, by go_num, HL.out⟩
        case measure => simp [intOf]; omega
      · clear HN o2 i2
        have hle' : 4000 < (A ++ B).length := by omega
        have hub : (A ++ B).length ≤ 1000000 := by simp; omega
        clear hle
        generalize (A ++ B).length = n at *
        go_wp2
        go_ret
        exact ⟨rfl, b2⟩
    · have hke : k = rs.length := by omega
      subst hke
      obtain ⟨⟨oA, bA, hAl, hps⟩, iA⟩ := HI.out
      have hEn : en rs rs.length = (rcds (cont rs)).length := by unfold en; rw [List.take_length]
      rw [List.take_length] at oA hAl hps
      have hO := rcds_oct hrs.octs
      have hcl : (cont rs).length = rs.length := by simp [cont]
      have hnum : rs.length * 12 ≤ 4000 := by have := rcds_len (cont rs); omega
      have hj1 : (kk : Int) % ((((rcds (cont rs)).length : Nat) : Int) + 1) = ((kk % ((rcds (cont rs)).length + 1) : Nat) : Int) := by rw [Int.natCast_emod, Int.natCast_add]; rfl
      have hj2 : kk % ((rcds (cont rs)).length + 1) ≤ (rcds (cont rs)).length := by have := Nat.mod_lt kk (show 0 < (rcds (cont rs)).length + 1 by omega); omega
      generalize kk % ((rcds (cont rs)).length + 1) = j at hj1 hj2
      have HT : Hid (∀ n, n ≤ rs.length → en rs n ≤ j → (n < rs.length → j < en rs (n + 1)) → scan ((rcds (cont rs)).take j) = (cont (rs.take n), en rs n, if j = en rs n then 0 else 2)) := fun n h1 h2 h3 => tears rs n j h1 hps h2 (by omega) h3
      obtain ⟨aA, cA, rfl, hAc, hAm, hnA, yA, _⟩ := oA.shape
      obtain ⟨aE, cE, rfl, yE⟩ := iA.shape
      rw [ens_length]
      have HE : Hid (∀ i, i < rs.length → ∃ g, aE = some ⟨g, 0, none⟩ ∧ ∀ W, Below wr.heap.size wr W → W.cell? ⟨g, i, none⟩ = some (.int .i64 ((en rs (i + 1) : Nat) : Int))) := fun i hi => by
        rcases yE with e | ⟨g, rfl, hg⟩
        · have := congrArg List.length e
          rw [ens_length, List.length_nil] at this
          omega
        · refine ⟨g, rfl, fun W hW => ?_⟩
          have h1 := hg i (by rw [ens_length]; exact hi)
          rw [ens_get rs rs.length i hi] at h1
          exact (hW.cell (p := ⟨g, i, none⟩) (cell_lt h1)).trans h1
      unfold maxLen at hAm
      have HS : Hid (∀ n, n ≤ rs.length → en rs n ≤ j → (n < rs.length → j < en rs (n + 1)) → Calls Try.prog 17 #[.slice aA j cA] wr fun e w' => ∃ v, e = .returned (.tuple #[v, .int .i64 ((en rs n : Nat) : Int), .int .i64 (((if j = en rs n then 0 else 2 : Nat)) : Int)]) ∧ OwnR w' wr.heap.size v (cont (rs.take n)) ∧ Below wr.heap.size wr w') := fun n h1 h2 h3 => by
        have h := scan_any aA cA ((rcds (cont rs)).take j) (by simp; omega) (by simp; omega) (by omega) wr (yA.take j) (oct_take hO j)
        rw [show ((rcds (cont rs)).take j).length = j by simp; omega] at h
        unfold ScanA at h
        rw [HT.out n h1 h2 h3] at h
        exact h
      have HRows : Hid (∀ (n : Nat) (r1 : List Rw) (x1 : Option Addr) (c1 : Nat) (W : World), n ≤ rs.length → cont r1 = cont (rs.take n) → Rws W x1 r1 → Rws W a0 rs → Calls Try.prog 19 #[.slice x1 n c1, .slice a0 n cap0] W fun e w' => e = .returned (.bool true) ∧ Below W.heap.size W w') := fun n r1 x1 c1 W hn e h1 h2 =>
        rows_b x1 a0 c1 cap0 r1 (rs.take n) e (by rw [e, cont_take]; exact fun p hp => hps p (List.mem_of_mem_take hp)) n (by have := congrArg List.length e; simp [cont] at this; omega) (by omega) W h1 (h2.take n)
      have HRs : Hid (Rws w a0 rs) := hrs
      have HB : Hid (Below w.heap.size w wr) := bA
      have HZ : Hid (en rs 0 = 0) := en_zero rs
      have henj : Hid (∀ n, en rs n ≤ j → en rs n ≤ 4000) := fun n h => by omega
      generalize (rcds (cont rs)).length = AL at *
      clear oA bA iA yA yE hO HI hrs hps HT hEn hcl
      go_wp2
      go_loop [11] (fun i => ∃ n : Nat, n ≤ rs.length ∧ i = .int .i64 n ∧ en rs n ≤ j) (fun i => rs.length - (intOf i).toNat)
      case atStart => exact ⟨0, by omega, rfl, by rw [HZ.out]; omega⟩
      case round =>
        obtain ⟨n, hn, rfl, hnj⟩ := hrel
        by_cases hgo : n < rs.length ∧ en rs (n + 1) ≤ j
        · obtain ⟨hlt2, hle2⟩ := hgo
          obtain ⟨g, rfl, hg⟩ := HE.out n hlt2
          have hcell := hg wr (Below.refl _ _)
          have hle3 : ((en rs (n + 1) : Nat) : Int) ≤ (j : Int) := by omega
          clear hg HE HS HRows
          generalize hen : en rs (n + 1) = e1 at *
          go_wp2
          go_round
          case rel => exact ⟨n + 1, by omega, by go_num, by omega⟩
          case measure => simp [intOf]; omega
        · have hstop : n < rs.length → j < en rs (n + 1) := fun h => by
            apply Nat.lt_of_not_le; intro h2; exact hgo ⟨h, h2⟩
          have HS1 := HS.out n hn hnj hstop
          obtain ⟨er, her, bb, hb1, hb2⟩ : ∃ er : Nat, er = (if j = en rs n then 0 else 2) ∧ ∃ bb, ((er : Int) == 0) = bb ∧ (((en rs n : Nat) : Int) == (j : Int)) = bb := by
            refine ⟨_, rfl, _, rfl, ?_⟩
            by_cases h : j = en rs n
            · rw [if_pos h, h]; simp
            · rw [if_neg h]
              have : ¬ ((en rs n : Nat) : Int) = (j : Int) := by omega
              simp [this]
          rw [← her] at HS1
          have HSn : Hid (Calls Try.prog 17 #[.slice aA j cA] wr fun e w' => ∃ v, e = .returned (.tuple #[v, .int .i64 ((en rs n : Nat) : Int), .int .i64 (er : Int)]) ∧ OwnR w' wr.heap.size v (cont (rs.take n)) ∧ Below wr.heap.size wr w') := HS1
          have hjc : j ≤ cA := by omega
          have hnc : n ≤ cap0 := by omega
          clear HS1 HS her hgo
          by_cases hlt2 : n < rs.length
          · obtain ⟨g, rfl, hg⟩ := HE.out n hlt2
            have hcell := hg wr (Below.refl _ _)
            have hle3 : ¬ ((en rs (n + 1) : Nat) : Int) ≤ (j : Int) := by have := hstop hlt2; omega
            clear hg
            generalize en rs (n + 1) = e9 at *
            go_wp2_with (refine sl_to rfl 22 (.tmp 70) (.tmp 71) rfl 5 Try.underlying22 Try.sizeOf5 aA AL cA j rfl rfl hjc ?_)
            go_wp2_with fail
            refine HSn.out.mono ?_
            rintro e w1 ⟨v1, rfl, o1, d1⟩
            clear HSn
            have b1 := HB.out.trans (d1.mono HB.out.size)
            obtain ⟨r1, x1, c1, e1, rfl, _, _, z1⟩ := o1.shape
            have hl1 : r1.length = n := by have := congrArg List.length e1; simp [cont] at this; omega
            rw [hl1]
            clear o1 hl1
            have HR1 : Hid (Calls Try.prog 19 #[.slice x1 n c1, .slice a0 n cap0] w1 fun e w' => e = .returned (.bool true) ∧ Below w1.heap.size w1 w') := HRows.out n r1 x1 c1 w1 hn e1 z1 (HRs.out.below b1)
            clear HRows z1 e1
            by_cases hn0 : 0 < n
            · obtain ⟨g', hg1, hg2⟩ := HE.out (n - 1) (by omega)
              have hc1 := hg2 w1 d1
              rw [show n - 1 + 1 = n by omega] at hc1
              obtain ⟨E, hE, hbE⟩ : ∃ E, E = en rs n ∧ (((E : Nat) : Int) == (j : Int)) = bb := ⟨_, rfl, hb2⟩
              rw [← hE] at hc1 ⊢
              have hE4 : E ≤ 4000 := by rw [hE]; exact henj.out n hnj
              clear hE hb2 hg2 HE d1
              obtain ⟨n1, rfl⟩ : ∃ n1, n = n1 + 1 := ⟨n - 1, by omega⟩
              rw [show n1 + 1 - 1 = n1 by omega] at hc1
              first | subst hg1 | (injection hg1 with hg1; injection hg1 with hg1; subst hg1)
              go_wp2_with (refine sl_to rfl 36 (.tmp 85) (.tmp 86) rfl 22 Try.underlying36 Try.sizeOf22 a0 rs.length cap0 (n1 + 1) rfl rfl hnc ?_)
              go_wp2_with fail
              refine HR1.out.mono ?_
              rintro e w2 ⟨rfl, d2⟩
              have b2 := b1.trans (d2.mono b1.size)
              go_wp2_with fail
              refine (known_any w2).mono ?_
              rintro e w3 ⟨rfl, d3⟩
              go_wp2
              go_ret
              exact ⟨rfl, b2.trans (d3.mono b2.size)⟩
            · have hz : n = 0 := by omega
              subst hz
              have hbE : ((0 : Int) == (j : Int)) = bb := by have := hb2; rw [HZ.out] at this; exact this
              rw [HZ.out]
              clear hb2 HE d1
              go_wp2_with (refine sl_to rfl 36 (.tmp 85) (.tmp 86) rfl 22 Try.underlying36 Try.sizeOf22 a0 rs.length cap0 0 rfl rfl hnc ?_)
              go_wp2_with fail
              refine HR1.out.mono ?_
              rintro e w2 ⟨rfl, d2⟩
              have b2 := b1.trans (d2.mono b1.size)
              go_wp2_with fail
              refine (known_any w2).mono ?_
              rintro e w3 ⟨rfl, d3⟩
              go_wp2
              go_ret
              exact ⟨rfl, b2.trans (d3.mono b2.size)⟩
          · go_wp2_with (refine sl_to rfl 22 (.tmp 70) (.tmp 71) rfl 5 Try.underlying22 Try.sizeOf5 aA AL cA j rfl rfl hjc ?_)
            go_wp2_with fail
            refine HSn.out.mono ?_
            rintro e w1 ⟨v1, rfl, o1, d1⟩
            clear HSn
            have b1 := HB.out.trans (d1.mono HB.out.size)
            obtain ⟨r1, x1, c1, e1, rfl, _, _, z1⟩ := o1.shape
            have hl1 : r1.length = n := by have := congrArg List.length e1; simp [cont] at this; omega
            rw [hl1]
            clear o1 hl1
            have HR1 : Hid (Calls Try.prog 19 #[.slice x1 n c1, .slice a0 n cap0] w1 fun e w' => e = .returned (.bool true) ∧ Below w1.heap.size w1 w') := HRows.out n r1 x1 c1 w1 hn e1 z1 (HRs.out.below b1)
            clear HRows z1 e1
            by_cases hn0 : 0 < n
            · obtain ⟨g', hg1, hg2⟩ := HE.out (n - 1) (by omega)
              have hc1 := hg2 w1 d1
              rw [show n - 1 + 1 = n by omega] at hc1
              obtain ⟨E, hE, hbE⟩ : ∃ E, E = en rs n ∧ (((E : Nat) : Int) == (j : Int)) = bb := ⟨_, rfl, hb2⟩
              rw [← hE] at hc1 ⊢
              have hE4 : E ≤ 4000 := by rw [hE]; exact henj.out n hnj
              clear hE hb2 hg2 HE d1
              obtain ⟨n1, rfl⟩ : ∃ n1, n = n1 + 1 := ⟨n - 1, by omega⟩
              rw [show n1 + 1 - 1 = n1 by omega] at hc1
              first | subst hg1 | (injection hg1 with hg1; injection hg1 with hg1; subst hg1)
              go_wp2_with (refine sl_to rfl 36 (.tmp 85) (.tmp 86) rfl 22 Try.underlying36 Try.sizeOf22 a0 rs.length cap0 (n1 + 1) rfl rfl hnc ?_)
              go_wp2_with fail
              refine HR1.out.mono ?_
              rintro e w2 ⟨rfl, d2⟩
              have b2 := b1.trans (d2.mono b1.size)
              go_wp2_with fail
              refine (known_any w2).mono ?_
              rintro e w3 ⟨rfl, d3⟩
              go_wp2
              go_ret
              exact ⟨rfl, b2.trans (d3.mono b2.size)⟩
            · have hz : n = 0 := by omega
              subst hz
              have hbE : ((0 : Int) == (j : Int)) = bb := by have := hb2; rw [HZ.out] at this; exact this
              rw [HZ.out]
              clear hb2 HE d1
              go_wp2_with (refine sl_to rfl 36 (.tmp 85) (.tmp 86) rfl 22 Try.underlying36 Try.sizeOf22 a0 rs.length cap0 0 rfl rfl hnc ?_)
              go_wp2_with fail
              refine HR1.out.mono ?_
              rintro e w2 ⟨rfl, d2⟩
              have b2 := b1.trans (d2.mono b1.size)
              go_wp2_with fail
              refine (known_any w2).mono ?_
              rintro e w3 ⟨rfl, d3⟩
              go_wp2
              go_ret
              exact ⟨rfl, b2.trans (d3.mono b2.size)⟩
end Go.Proofs.Ythgicnfhclfcjaa
