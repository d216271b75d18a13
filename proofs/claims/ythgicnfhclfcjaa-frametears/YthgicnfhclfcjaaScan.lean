/-
  The contracts of frame.Scan and of the document's own Scan; a slice of rows of bytes that the call made.
-/
import Derived.Test.YthgicnfhclfcjaaRdec
import Derived.Test.YthgicnfhclfcjaaRowz
import Derived.Maps.AppendAt
namespace Go.Proofs.Ythgicnfhclfcjaa
open Go.RowKit Math
set_option linter.unusedVariables false
theorem Try.info22 : (Try.prog.info? 22).map (fun i => (i.zero, i.size, i.bytes)) = some (some (.slice none 0 0), 1, 24) := by kernel_rfl
def slOf (r : Rw) : Value := .slice r.1 r.2.2.length r.2.1
/-- A slice of rows of bytes that the call made, each row in a block of its own. -/
def OwnR (w : World) (base : Nat) (v : Value) (ls : List (List Nat)) : Prop :=
  ∃ rs : List Rw, rs.map (·.2.2) = ls ∧ w.ownsRow base 22 1 v rs.length (rs.map slOf) ∧ ∀ r ∈ rs, RowAt w r ∧ ∀ x, r.1 = some x → base ≤ x.block ∧ x.block < w.heap.size ∧ v.ownBlock ≠ some x.block
theorem ownR_nil (w : World) (base : Nat) : OwnR w base (.slice none 0 0) [] := ⟨[], rfl, ⟨by simp, .inl ⟨rfl, rfl⟩⟩, fun r hr => by cases hr⟩
theorem Byt.grown {w w' : World} {row : Option Nat} {a : Option Addr} {l : List Nat} (h : Byt w a l) (hg : w.grownBy w' row) (hr : ∀ x, a = some x → row ≠ some x.block) : Byt w' a l := by
  rcases h with rfl | ⟨b, off, rfl, h⟩
  · exact .inl rfl
  · refine .inr ⟨b, off, rfl, fun i hi => ?_⟩
    have hlt := cell_lt (h i hi)
    have hbk := hg.block b hlt (fun e => hr _ rfl e.symm)
    rw [← h i hi]
    simp only [World.cell?, hbk]
theorem RowAt.grown {w w' : World} {row : Option Nat} {r : Rw} (h : RowAt w r) (hg : w.grownBy w' row) (hr : ∀ x, r.1 = some x → row ≠ some x.block) : RowAt w' r := ⟨h.byt.grown hg hr, h.oct, h.nil, h.len⟩
theorem grown_below {w w' : World} (hb : Below w.heap.size w w') : w.grownBy w' none := ⟨hb.os, hb.tape, hb.output, hb.size, fun k hk _ => hb.block k hk⟩
theorem OwnR.below {w w' : World} {base : Nat} {v : Value} {ls : List (List Nat)} (h : OwnR w base v ls) (hb : Below w.heap.size w w') : OwnR w' base v ls := by
  obtain ⟨rs, e, ho, hr⟩ := h
  refine ⟨rs, e, World.ownsRow.kept (row := none) ho (grown_below hb) (by simpa using Classical.em _), fun r hm => ?_⟩
  obtain ⟨h1, h2⟩ := hr r hm
  refine ⟨h1.grown (grown_below hb) (by simp), fun x hx => ?_⟩
  obtain ⟨h3, h4, h5⟩ := h2 x hx
  exact ⟨h3, Nat.lt_of_lt_of_le h4 hb.size, h5⟩
theorem OwnR.shape {w : World} {base : Nat} {v : Value} {ls : List (List Nat)} (h : OwnR w base v ls) :
    ∃ (rs : List Rw) (a : Option Addr) (c : Nat), rs.map (·.2.2) = ls ∧ v = .slice a rs.length c ∧ rs.length ≤ c ∧ c ≤ maxLen ∧ Rws w a rs := by
  obtain ⟨rs, e, ho, hr⟩ := h
  have ho' := ho
  rcases ho with ⟨h1, ⟨rfl, h0⟩ | ⟨g, cap, cur, rfl, hg, hh, hle, hm, h5⟩⟩
  · have : rs = [] := List.eq_nil_of_length_eq_zero h0
    subst this
    exact ⟨[], none, 0, e, rfl, Nat.le_refl _, by unfold maxLen; omega, .inl rfl⟩
  · refine ⟨rs, _, cap, e, rfl, hle, hm, .inr ⟨g, 0, rfl, fun i r hi => ?_⟩⟩
    have hlt : i < rs.length := (List.getElem?_eq_some_iff.1 hi).1
    refine ⟨?_, (hr r (List.mem_of_getElem? hi)).1⟩
    rw [Nat.zero_add, World.ownsRow.cellAt ho' i (by omega), List.getElem?_map, hi]
    rfl
/-- A row of the call's own is appended. -/
theorem app_row {ops : Array Oper} {rest : List Oper} {o : Oper} {a : Act} {Q : Exit → Act → World → Prop} {w : World} (hgd : o.guard = none) (s x : Operand)
    (ho : o.op = .call { callee := .builtin .append, args := #[s, x], argTypes := #[36, 36] })
    (base : Nat) (v : Value) (ls : List (List Nat)) (hs : a.eval s = v) (hown : OwnR w base v ls) (ad : Addr) (av : Option Addr) (cv : Nat) (p : List Nat) (hx : a.eval x = .slice (some ad) 1 1) (hcell : w.cell? ad = some (.slice av p.length cv))
    (hp : Own w base (.slice av p.length cv) p) (hpo : Oct p) (hpl : p.length ≤ 1000000) (hne : ∀ x, av = some x → v.ownBlock ≠ some x.block) (hlen : ls.length ≤ 1000000) (hbase : base ≤ w.heap.size)
    (h : ∀ v' w', OwnR w' base v' (ls ++ [p]) → w.grownBy w' v.ownBlock → wpList Try.prog ops Q rest (a.put o.dst v') w') : wpList Try.prog ops Q (o :: rest) a w := by
  obtain ⟨i, hi, hz0, hz1, hz2⟩ := info_parts Try.info22
  obtain ⟨rs, e, hw, hr⟩ := hown
  have hrl : rs.length = ls.length := by rw [← e]; simp
  refine wpList_append_own_at _ hgd s x 36 ho base 22 i (.slice none 0 0) 1 24 Try.underlying36 hi hz0 hz1 hz2 rfl (by decide) v _ _ hs hw ad 1 1 [.slice av p.length cv] hx rfl ?_ (by simp [Value.oneCell']) (by unfold maxLen; omega) (by omega) hbase ?_
  · intro j u hj
    match j, hj with
    | 0, hj =>
      have : u = .slice av p.length cv := by simpa using hj.symm
      subst this
      obtain ⟨b, off, spot⟩ := ad
      have hs0 : spot = none := World.cell?_spot hcell
      subst hs0
      rw [Addr.add_lit, Nat.add_zero]; exact hcell
    | j + 1, hj => simp at hj
  · intro v' w' h1 h2 _ h4
    obtain ⟨ap, cp, he, _, _, hnil, hby, hblk⟩ := hp.shape
    injection he with e1 _ e3
    subst e1 e3
    refine h v' w' ⟨rs ++ [(av, cv, p)], by simp [e], ?_, ?_⟩ h2
    · rw [List.length_append, List.map_append]; exact h1
    · intro r hm
      have key : RowAt w r ∧ ∀ x, r.1 = some x → base ≤ x.block ∧ x.block < w.heap.size ∧ v.ownBlock ≠ some x.block := by
        rcases List.mem_append.1 hm with hm | hm
        · exact hr r hm
        · have : r = (av, cv, p) := by simpa using hm
          subst this
          exact ⟨⟨hby, hpo, hnil, by show p.length ≤ _; omega⟩, fun x hx => ⟨(hblk x hx).1, (hblk x hx).2, hne x hx⟩⟩
      obtain ⟨k1, k2⟩ := key
      refine ⟨k1.grown h2 (fun x hx => (k2 x hx).2.2), fun x hx => ?_⟩
      obtain ⟨q1, q2, q3⟩ := k2 x hx
      refine ⟨q1, Nat.lt_of_lt_of_le q2 h2.size, ?_⟩
      rcases h4 with h4 | h4
      · rw [h4]; exact q3
      · rw [h4]; intro e; injection e with e; omega
theorem ownR_lt {w : World} {base : Nat} {v : Value} {ls : List (List Nat)} (h : OwnR w base v ls) {g : Nat} (hg : v.ownBlock = some g) : base ≤ g ∧ g < w.heap.size := by
  obtain ⟨rs, _, ho, _⟩ := h
  exact World.ownsRow.lt ho g hg
/-- Scan's answer. -/
def ScanA (l : List Nat) (w : World) (e : Ending) (w' : World) : Prop := ∃ v, e = .returned (.tuple #[v, .int .i64 (scan l).2.1, .int .i64 (scan l).2.2]) ∧ OwnR w' w.heap.size v (scan l).1 ∧ Below w.heap.size w w'
theorem tris {l : List Nat} {p : List (List Nat)} {n e : Nat} (h : scan l = (p, n, e)) (v : Value) {x y : Int} (hx : x = n) (hy : y = e) : Ending.returned (.tuple #[v, .int .i64 x, .int .i64 y]) = Ending.returned (.tuple #[v, .int .i64 (scan l).2.1, .int .i64 (scan l).2.2]) := by
  rw [h, hx, hy]
/-- What a round of Scan has. -/
def Sc (l : List Nat) (w : World) (k : Nat) (v : Value) (wr : World) : Prop :=
  ∃ ls, ls.length ≤ k ∧ OwnR wr w.heap.size v ls ∧ Below w.heap.size w wr ∧ scan l = (ls ++ (scan (l.drop k)).1, k + (scan (l.drop k)).2.1, (scan (l.drop k)).2.2)
set_option maxRecDepth 8000 in
set_option maxHeartbeats 2000000 in
theorem scan_any (a : Option Addr) (cap : Nat) (l : List Nat) (hn : l.length ≤ 1000000) (hlc : l.length ≤ cap) (hcm : cap ≤ 9223372036854775807) (w : World) (hc : Byt w a l) (hb : Oct l) :
    Calls Try.prog 17 #[.slice a l.length cap] w (ScanA l w) := by
  go_enter Try.func17, Try.ntmps17
  go_wp2
  go_loopw [5, 6] (fun v i wr => ∃ k : Nat, k ≤ l.length ∧ i = .int .i64 k ∧ Hid (Sc l w k v wr)) (fun _ i _ => l.length - (intOf i).toNat)
  case atStart => exact ⟨0, by omega, rfl, [], Nat.le_refl _, ownR_nil _ _, Below.refl _ _, by simp⟩
  case round =>
    obtain ⟨k, hk, rfl, HI⟩ := hrel
    by_cases hlt : k < l.length
    · rcases hc with rfl | ⟨b, off, rfl, hc⟩
      · simp at hlt
      obtain ⟨ls, hls, oR, bR, hsc⟩ := HI.out
      have HSc : Hid _ := hsc
      have HOR : Hid (OwnR wr w.heap.size u5 ls) := oR
      have HBR : Hid (Below w.heap.size w wr) := bR
      have HDec : Hid (∀ W, Cells W b off l → Calls Try.prog 15 #[.slice (some ⟨b, off + k, none⟩) (l.length - k) (cap - k)] W (DecA (l.drop k) W)) := fun W h => by
        have := dec_any (some ⟨b, off + k, none⟩) (cap - k) (l.drop k) (by simp; omega) (by simp; omega) (by omega) W (.inr ⟨b, off + k, rfl, h.drop k⟩) (oct_drop hb k)
        rw [List.length_drop] at this
        exact this
      have HC : Hid (Cells wr b off l) := hc.below bR
      have hlk : k ≤ l.length := hk
      have HOD : Hid (Oct (dec (l.drop k)).1) := dec_oct (oct_drop hb k)
      have HLD : Hid ((dec (l.drop k)).1.length ≤ 1000000) := by have := dec_len (l.drop k); rw [List.length_drop] at this; show _ ≤ _; omega
      clear hsc oR bR HI hc hb
      have hck : ¬ cap = k := by omega
      have hkc : (k : Int) ≤ (cap : Int) := by omega
      go_wp2_with fail
      refine (HDec.out wr HC.out).mono ?_
      rintro e w1 ⟨vp, rfl, o1, d1⟩
      clear HDec HC
      by_cases hz : (dec (l.drop k)).2.2 = 0
      · have hp := dec_pos hz
        rw [List.length_drop] at hp
        have HS2 : Hid (scan l = (ls ++ [(dec (l.drop k)).1] ++ (scan (l.drop (k + (dec (l.drop k)).2.1))).1, k + (dec (l.drop k)).2.1 + (scan (l.drop (k + (dec (l.drop k)).2.1))).2.1, (scan (l.drop (k + (dec (l.drop k)).2.1))).2.2)) := by
          show _ = _
          rw [HSc.out, scan_ok (by rw [List.length_drop]; omega) hz, List.drop_drop]
          simp [Nat.add_assoc]
        rw [hz]
        have oR := HOR.out.below d1
        have bR := HBR.out.trans (d1.mono HBR.out.size)
        have hfresh : ∀ g, u5.ownBlock = some g → g < wr.heap.size := fun g hg => (ownR_lt HOR.out hg).2
        obtain ⟨av, cv, rfl, _, _, _, _, hblk⟩ := o1.shape
        have hne : ∀ x, av = some x → u5.ownBlock ≠ some x.block := fun x hx he => by
          have h1 := hfresh _ he
          have h2 := (hblk x hx).1
          omega
        have oP := own_mono o1 HBR.out.size
        generalize dec (l.drop k) = D at *
        obtain ⟨p, n, er⟩ := D
        simp only at *
        have s1 := bR.size
        have HX : Hid (OwnR (w1.alloc (.cells #[.slice av p.length cv] 22)) w.heap.size u5 ls ∧ Own (w1.alloc (.cells #[.slice av p.length cv] 22)) w.heap.size (.slice av p.length cv) p ∧ Below w.heap.size w (w1.alloc (.cells #[.slice av p.length cv] 22))) :=
          ⟨oR.below ((Below.refl _ _).alloc (Nat.le_refl _) _), oP.alloc _, bR.alloc s1 _⟩
        have HNe : Hid (∀ x, av = some x → u5.ownBlock ≠ some x.block) := hne
        clear o1 d1 oR bR oP hfresh hblk hne HSc HOR HBR
        go_wp2_with (at_builtin; go_must (refine app_row rfl (.tmp 27) (.tmp 29) rfl w.heap.size u5 ls rfl HX.out.1 _ av cv p rfl (by simp [go_sem]) HX.out.2.1 HOD.out HLD.out HNe.out (by omega) (by simp; omega) ?_))
        intro v2 w2 o2 g2
        have HB2 : Hid (Below w.heap.size w w2) := HX.out.2.2.grown g2 HX.out.2.2.size (fun g hg => (ownR_lt HX.out.1 hg).1)
        have HO2 : Hid (OwnR w2 w.heap.size v2 (ls ++ [p])) := o2
        clear o2 g2 HX HNe
        go_wp2
        go_roundw
        case rel => exact ⟨k + n, by omega, by go_num, ls ++ [p], by simp; omega, HO2.out, HB2.out, HS2.out⟩
        case measure => simp [intOf]; omega
      · have HS2 : Hid (scan l = (ls, k, (dec (l.drop k)).2.2)) := by
          show _ = _
          rw [HSc.out, scan_err (by rw [List.length_drop]; omega) hz]
          simp
        have hd6 : (dec (l.drop k)).2.2 < 6 := by
          rcases dec_cases (l.drop k) with ⟨e, he, h2⟩ | ⟨n, _, _, he⟩
          · rw [he]; simp; omega
          · rw [he]; simp
        have HOR2 : Hid (OwnR w1 w.heap.size u5 ls) := HOR.out.below d1
        have HBR2 : Hid (Below w.heap.size w w1) := HBR.out.trans (d1.mono HBR.out.size)
        obtain ⟨av, cv, rfl, _, _, _, _, hblk⟩ := o1.shape
        generalize dec (l.drop k) = D at *
        obtain ⟨p, n, er⟩ := D
        simp only at *
        have hne : ((er : Int) != 0) = true := by simp; omega
        clear o1 d1 hblk HSc HOR HBR
        go_wp2
        go_ret3
        refine ⟨_, tris HS2.out _ rfl rfl, ?_, HBR2.out⟩
        rw [HS2.out]
        exact HOR2.out
    · obtain ⟨ls, hls, oR, bR, hsc⟩ := HI.out
      have HS2 : Hid (scan l = (ls, k, 0)) := by
        show _ = _
        rw [hsc, scan_nil (by rw [List.length_drop]; omega)]
        simp
      have HOR : Hid (OwnR wr w.heap.size u5 ls) := oR
      have HBR : Hid (Below w.heap.size w wr) := bR
      clear hsc oR bR HI hc hb
      go_wp2
      go_ret3
      refine ⟨_, tris HS2.out _ rfl rfl, ?_, HBR.out⟩
      rw [HS2.out]
      exact HOR.out
end Go.Proofs.Ythgicnfhclfcjaa
