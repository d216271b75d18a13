/-
  The document's own List, and the names of both sides.
-/
import Derived.Test.YtmpnceicodfifaaGreatRcp
import Derived.Test.YtmpnceicodfifaaGreatLst
import Derived.Sort.KeysCollected
import Derived.Sort.Walk0
namespace Go.Proofs.YtmpnceicodfifaaGreat
open Go.RowKit Go.Maps
open Go.Sort hiding Below
set_option linter.unusedVariables false
theorem Tryz.info9 : (Tryz.prog.info? 9).map (fun i => (i.zero, i.size, i.bytes)) = some (some (.string ByteArray.empty), 1, 16) := by kernel_rfl
theorem names_sorted {fs : List (Nm × Fl)} (h : Ris fs) {ss : List (List UInt8)} (hp : ss.Perm (fs.map (·.1))) : ss.mergeSort (fun x y => decide (x ≤ y)) = fs.map (·.1) := by
  have h1 : ss.mergeSort (fun x y => decide (x ≤ y)) = (fs.map (·.1)).mergeSort (fun x y => decide (x ≤ y)) := mergeSort_of_perm hp
  rw [h1]
  refine List.mergeSort_of_pairwise ?_
  rw [List.pairwise_map]
  refine h.imp ?_
  intro p q hpq
  rw [← less_eq, bytesLess_eq] at hpq
  have := of_decide_eq_true hpq
  exact decide_eq_true (List.le_of_lt this)
theorem tx_of {w : World} {base : Nat} {v : Value} {ss : List (List UInt8)} (h : TOwn w base v ss) : ∃ a c, v = .slice a (ss.map bsOf).length c ∧ Tx w a (ss.map bsOf) := by
  have h' := h
  rcases h with ⟨h1, ⟨rfl, h0⟩ | ⟨g, cap, cur, rfl, hg, hh, hle, hm, h5, h6⟩⟩
  · have e : ss = [] := List.eq_nil_of_length_eq_zero h0
    subst e
    exact ⟨none, 0, rfl, .inl rfl⟩
  · refine ⟨_, cap, by rw [List.length_map], .inr ⟨g, 0, rfl, fun j u hj => ?_⟩⟩
    have hlt := (List.getElem?_eq_some_iff.1 hj).1
    rw [List.length_map] at hlt
    rw [Nat.zero_add, World.ownsRow.cellAt h' j (by omega)]
    rw [List.getElem?_map] at hj ⊢
    cases hs : ss[j]? with
    | none => rw [hs] at hj; cases hj
    | some x => rw [hs] at hj; cases hj; rfl
theorem app_text {ops : Array Oper} {rest : List Oper} {o : Oper} {a : Act} {Q : Exit → Act → World → Prop} {w : World} (hgd : o.guard = none) (s x : Operand)
    (ho : o.op = .call { callee := .builtin .append, args := #[s, x], argTypes := #[70, 70] })
    (base : Nat) (v : Value) (ss : List (List UInt8)) (hs : a.eval s = v) (hown : TOwn w base v ss) (b : Nat) (c : Nat) (t : List UInt8) (hx : a.eval x = .slice (some ⟨b, 0, none⟩) 1 c) (hc : w.cell? ⟨b, 0, none⟩ = some (.string (bsOf t)))
    (hb : ss.length ≤ 100000) (hbase : base ≤ w.heap.size)
    (h : ∀ v' w', TOwn w' base v' (ss ++ [t]) → w.grownBy w' v.ownBlock → wpList Tryz.prog ops Q rest (a.put o.dst v') w') : wpList Tryz.prog ops Q (o :: rest) a w := by
  refine wpList_plain hgd fun K hK => ?_
  obtain ⟨i, hi, hz0, hz1, hz2⟩ := info_parts Tryz.info9
  obtain ⟨v', w', r1, r2, r3, _, r5⟩ := run_append_own_at (P := Tryz.prog) w base 70 o.type 9 i _ 1 16 Tryz.underlying70 hi hz0 hz1 hz2 rfl (by decide) v _ _ hown ⟨b, 0, none⟩ 1 c [.string (bsOf t)] rfl (by
    intro j u hj
    match j, hj with
    | 0, hj => cases hj; exact hc
    | j + 1, hj => simp at hj) (by intro u hu; have : u = .string (bsOf t) := by simpa using hu
                                   rw [this]; rfl) (by unfold maxLen; omega) (by omega) hbase
  unfold Oper.wp execOp
  simp only [ho, resolve, invoke, builtin, Sem.run_bind, Sem.run_pure, Result.andThen_ok, List.map_toArray, List.map_cons, List.map_nil, hs, hx, r1]
  refine hK _ _ (h v' w' ?_ r3)
  unfold TOwn
  rw [List.length_append, List.map_append]
  exact r2
theorem TOwn.below {w w' : World} {base : Nat} {v : Value} {ss : List (List UInt8)} (h : TOwn w base v ss) (hb : Below w.heap.size w w') : TOwn w' base v ss := by
  refine h.keptBy (T := fun _ => False) (Kept.of_below hb) (fun _ h => h.elim)
theorem below_appt {B : Nat} {w0 w w' : World} {v : Value} {l : List (List UInt8)} (hb : Below B w0 w) (hB : B ≤ w.heap.size) (h : TOwn w B v l) (hg : w.grownBy w' v.ownBlock) : Below B w0 w' :=
  hb.grown hg hB fun k hk => (World.ownsRow.lt h k hk).1
def nms (fs : List (Nm × Fl)) : List Nm := fs.map (·.1)
set_option maxRecDepth 8000 in
set_option maxHeartbeats 2000000 in
theorem rlist_any {w : World} {br : Nat} {R : Nat → Prop} {a : Ab} (h : Ref w br R a) (hl : Lim a) :
    Calls Tryz.prog 41 #[.pointer (some ⟨br, 0, none⟩)] w fun e w' => ∃ v, e = .returned v ∧ Hid (TOwn w' w.heap.size v (nms a.fs) ∧ Below w.heap.size w w') := by
  have HH : Hid (Ref w br R a) := h
  have hfl : a.fs.length ≤ 4096 := hl.fine.fs.files
  clear h hl
  go_enter Tryz.func41, Tryz.ntmps41
  go_wp2
  go_loopw [3, 4] (fun v i wr => ∃ (k : Nat), k ≤ a.fs.length ∧ i = .int .i64 (k : Int) ∧ TOwn wr w.heap.size v (nms (a.fs.take k)) ∧ Below w.heap.size w wr) (fun _ i _ => a.fs.length - (intOf i).toNat)
  case atStart => exact ⟨0, by omega, rfl, ⟨rfl, .inl ⟨rfl, rfl⟩⟩, Below.refl _ _⟩
  case round =>
    obtain ⟨k, hk, rfl, hto, hbl⟩ := hrel
    have hrf := HH.out.below hbl
    obtain ⟨av, cv, rfl⟩ := hto.shape
    by_cases hlt : k < a.fs.length
    case neg =>
      obtain ⟨its, aL, cL, hs⟩ := hrf.seen
      have c1 := hs.c1
      have hlen : its.length = a.fs.length := by
        have := congrArg List.length hs.fs
        simp only [List.length_map] at this
        exact this.symm
      rw [hlen] at c1
      have HR : Hid (TOwn wr w.heap.size (.slice av (nms (a.fs.take k)).length cv) (nms a.fs) ∧ Below w.heap.size w wr) := by
        refine ⟨?_, hbl⟩
        have e : a.fs.take k = a.fs := List.take_of_length_le (by omega)
        rw [e] at hto ⊢
        exact hto
      clear hrf hs hlen hto hbl HH
      generalize a.fs.length = nf at *
      generalize (nms (a.fs.take k)).length = nl at *
      go_wp2
      go_ret
      exact ⟨_, rfl, HR.out⟩
    obtain ⟨⟨nm, y⟩, hfx⟩ : ∃ p, a.fs[k]? = some p := ⟨_, List.getElem?_eq_getElem hlt⟩
    obtain ⟨its, g, cL, x, ax, cx, hri, hfs, hR, hil, hx, hxn, hxb, hxk, ev, hle, hmx2, hbc, hby, hnil, c1, f1, f2, hz, ho⟩ := hrf.at hfx
    have f0 : wr.cell? ⟨g, k * 3, none⟩ = some (.string (bsOf x.nm)) := (World.ownsRow.cellAt hri.own (k * 3) (by omega)).trans (icells_get its k x hx).1
    rw [hxn] at f0
    unfold maxLen at hmx2
    have hlen : its.length = a.fs.length := by
      have := congrArg List.length hfs
      simp only [List.length_map] at this
      exact this.symm
    have hdl : decide ((k : Int) < (its.length : Int)) = true := by rw [hlen]; simpa using hlt
    have HTK : Hid (nms (a.fs.take (k + 1)) = nms (a.fs.take k) ++ [nm]) := by
      show _ = _
      rw [List.take_succ_eq_append_getElem hlt]
      rw [List.getElem?_eq_getElem hlt] at hfx
      rw [Option.some.inj hfx]
      unfold nms
      simp
    have hnl : (nms (a.fs.take k)).length ≤ 4096 := by unfold nms; rw [List.length_map, List.length_take]; omega
    have b1 : Below wr.heap.size wr (wr.alloc (.cells #[.string (bsOf nm)] 9)) := (Below.refl _ _).alloc (Nat.le_refl _) _
    have HTO : Hid (TOwn (wr.alloc (.cells #[.string (bsOf nm)] 9)) w.heap.size (.slice av (nms (a.fs.take k)).length cv) (nms (a.fs.take k)) ∧ Below w.heap.size w (wr.alloc (.cells #[.string (bsOf nm)] 9))) := ⟨hto.below b1, hbl.trans (b1.mono hbl.size)⟩
    have hws := hbl.size
    have hgl := cell_lt f0
    clear hri hfs hR hx hxn hz ev hxb hxk ho hfx hrf HH hby hto hbl hlen b1 f1 f2
    generalize hml : (nms (a.fs.take k)).length = nl at *
    have HML : Hid ((nms (a.fs.take k)).length = nl) := hml
    clear hml
    go_wp2_with (at_builtin; go_must (refine app_text rfl (.tmp 14) (.tmp 23) rfl w.heap.size _ _ rfl HTO.out.1 wr.heap.size 1 nm rfl (by simp) (by rw [HML.out]; omega) (by simp; omega) ?_))
    intro v1 w2 o1 g1
    have b2 := below_appt HTO.out.2 (by simp; omega) HTO.out.1 g1
    rw [← HTK.out] at o1
    have HO : Hid (TOwn w2 w.heap.size v1 (nms (a.fs.take (k + 1))) ∧ Below w.heap.size w w2) := ⟨o1, b2⟩
    obtain ⟨av2, cv2, rfl⟩ := o1.shape
    have hil3 : k < a.fs.length := hlt
    clear o1 b2 g1 HTO HTK HML f0 c1
    generalize (nms (a.fs.take (k + 1))).length = n2 at *
    go_wp2
    go_roundw
    case rel => exact ⟨k + 1, hil3, by go_num, HO.out.1, HO.out.2⟩
    case measure => simp [intOf]; omega
end Go.Proofs.YtmpnceicodfifaaGreat
