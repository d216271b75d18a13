/-
  gone, live, Has, named.
-/
import Derived.Test.YtbkogaencjmmgaaCc
import Derived.Laws.Bits64b
namespace Go.Proofs.Ytbkogaencjmmgaa
open Go.RowKit Go.MapKept
set_option linter.unusedVariables false
set_option linter.unusedSimpArgs false
theorem wrap_small {n : Nat} {x : Int} (e : x = (n : Int)) (h : n < 9223372036854775808) : wrap64 x = (n : Int) := by rw [e]; simp only [wrap64]; omega
theorem ld_w {P : Program} {ops : Array Oper} {rest : List Oper} {o : Oper} {a : Act} {w : World} {Q : Exit → Act → World → Prop} (hg : o.guard = none) (ty : TypeId) (x : Operand) (ho : o.op = .load ty x) (b k : Nat) (hx : a.eval x = .pointer (some ⟨b, k, none⟩)) (cs : List Value) (d : TypeDesc) (hS : w.rangeAt b k cs) (hu : P.underlying ty = some d) (hd : d.isRow = true) (hi : (P.info? ty).map (·.size) = some cs.length)
    (h : wpList P ops Q rest (a.put o.dst (.agg cs.toArray)) w) : wpList P ops Q (o :: rest) a w :=
  wpList_plain hg fun _ hK => wp_load_mid ty x ho b k hx cs d hS hu hd hi (hK _ _ h)
theorem CM.dm64 {w : World} {g dm : Nat} {tv mv : Value} {L : List TV} (h : CM w g tv dm mv L) : dm < 18446744073709551616 := by
  refine Nat.lt_pow_two_of_testBit (n := 64) dm fun i hi => ?_
  rw [h.bits i]
  have := h.ok.len
  unfold goneB tbl
  rw [if_pos (by omega), List.getElem?_eq_none (by omega)]
theorem bit_one (dm k : Nat) (h : dm < 18446744073709551616) : (bits .and .u64 ((dm : Int) / 2 ^ k) 1 == 1) = dm.testBit k := by
  have e1 : (dm : Int) / 2 ^ k = ((dm / 2 ^ k : Nat) : Int) := by simp
  have h2 : dm / 2 ^ k < 18446744073709551616 := Nat.lt_of_le_of_lt (Nat.div_le_self _ _) h
  have e2 := bits_and_u64_nat (dm / 2 ^ k) 1 h2 (by omega)
  rw [e1]
  have e3 : bits .and .u64 ((dm / 2 ^ k : Nat) : Int) 1 = ((dm / 2 ^ k % 2 : Nat) : Int) := by
    rw [show (1 : Int) = ((1 : Nat) : Int) from rfl, e2, Nat.and_one_is_mod]
  rw [e3]
  have e4 : dm.testBit k = decide (dm / 2 ^ k % 2 = 1) := by rw [Nat.testBit_eq_decide_div_mod_eq]
  rw [e4]
  rcases Nat.mod_two_eq_zero_or_one (dm / 2 ^ k) with h | h <;> rw [h] <;> rfl
theorem gone_any (g : Nat) (tv mv : Value) (dm : Nat) (L : List TV) (id : Int) (w : World) (h : CM w g tv dm mv L) (hid : thereB (strip L) id = true) : Calls Try.prog 35 #[.pointer (some ⟨g, 0, none⟩), .int .i64 id] w fun e w' => e = .returned (.bool (goneB (strip L) id)) ∧ w' = w := by
  have c1 : w.cell? ⟨g, 1, none⟩ = some (.int .u64 (dm : Int)) := h.blk.cell 1
  have hl := h.ok.len
  simp only [thereB, Bool.and_eq_true, decide_eq_true_eq] at hid
  obtain ⟨k, hk⟩ : ∃ k : Nat, id = (k : Int) + 1 := ⟨(id - 1).toNat, by omega⟩
  subst hk
  have hb := h.bits k
  have hk64 : k < 64 := by omega
  have e1 : wrap64 ((k : Int) + 1 - 1) = (k : Int) := wrap_small (n := k) (by omega) (by omega)
  have e2 := bit_one dm k h.dm64
  rw [← hb]
  clear h hb
  go_enter Try.func35, Try.ntmps35
  go_wp2
  go_ret
  exact ⟨rfl, rfl⟩
theorem live_any (g : Nat) (tv mv : Value) (dm : Nat) (L : List TV) (id : Int) (w : World) (h : CM w g tv dm mv L) : Calls Try.prog 34 #[.pointer (some ⟨g, 0, none⟩), .int .i64 id] w fun e w' => e = .returned (.bool (liveB (strip L) id)) ∧ w' = w := by
  have K := there_any g tv mv dm L id w h
  have K2 : thereB (strip L) id = true → _ := gone_any g tv mv dm L id w h
  unfold liveB
  generalize thereB (strip L) id = T at *
  generalize goneB (strip L) id = G at *
  clear h
  cases T with
  | false =>
    clear K2
    go_enter Try.func34, Try.ntmps34
    go_wp2_with (go_at_call 29; refine K.mono ?_; clear K; rintro e w' ⟨rfl, rfl⟩)
    go_ret
    exact ⟨rfl, rfl⟩
  | true =>
    replace K2 := K2 rfl
    go_enter Try.func34, Try.ntmps34
    go_wp2_with (first | (go_at_call 29; refine K.mono ?_; clear K; rintro e w' ⟨rfl, rfl⟩) | (go_at_call 35; refine K2.mono ?_; clear K2; rintro e w' ⟨rfl, rfl⟩))
    go_ret
    exact ⟨by simp, rfl⟩
theorem has_any (g : Nat) (tv mv : Value) (dm : Nat) (L : List TV) (id : Int) (s : ByteArray) (hi : I64 id) (hs : s.size ≤ maxLen) (w : World) (h : CM w g tv dm mv L) : Calls Try.prog 17 #[.pointer (some ⟨g, 0, none⟩), .int .i64 id, .string s] w fun e w' => e = .returned (.bool (hasB (strip L) id s)) ∧ Below w.heap.size w w' := by
  have c2 : w.cell? ⟨g, 2, none⟩ = some mv := h.blk.cell 2
  have hr := h.map.lookup id s hi hs (hasB (strip L) id s) Iff.rfl
  unfold pk at hr
  generalize hasB (strip L) id s = T at *
  clear h hi hs
  go_enter Try.func17, Try.ntmps17
  go_wp2
  go_ret
  exact ⟨rfl, (Below.refl _ w).alloc (Nat.le_refl _) _⟩
theorem tbl_nat {A : List Tb} {k : Nat} : tbl A ((k : Int) + 1) = A[k]? := by
  unfold tbl
  rw [if_pos (by omega), show ((k : Int) + 1 - 1).toNat = k by omega]
theorem namF_at (s : ByteArray) {A : List Tb} {k : Nat} {t : Tb} (h : A[k]? = some t) : namF s k (A.drop k) = if (bq t.name s && !t.gone) = true then k + 1 else namF s (k + 1) (A.drop (k + 1)) := by
  obtain ⟨hl, e⟩ := List.getElem?_eq_some_iff.1 h
  rw [List.drop_eq_getElem_cons hl, e]
  rfl
theorem sTb (s : ByteArray) (v : Value) : (Try.prog.info? 87).map (·.size) = some [Value.string s, v].length := by kernel_rfl
theorem zTb : (Try.prog.info? 87).map (fun i => i.zero.map (·.cells)) = some (some [Value.string ⟨#[]⟩, .slice none 0 0].toArray) := by kernel_rfl
theorem tb_rng {w : World} {b : Nat} {X Y : List TV} {p : TV} {sp : List Value} (h : Blk w b 87 (tbs (X ++ p :: Y) ++ sp)) : w.rangeAt b (X.length * 2) [.string p.1.name, p.2] := by
  have e : tbs (X ++ p :: Y) ++ sp = tbs X ++ ([.string p.1.name, p.2] ++ (tbs Y ++ sp)) := by rw [tbs_app, tbs_cons]; simp
  rw [e] at h
  have := h.range
  rwa [tbs_len] at this
theorem at_split {α : Type} {L : List α} {k : Nat} {p : α} (h : L[k]? = some p) : L = L.take k ++ p :: L.drop (k + 1) ∧ (L.take k).length = k := by
  obtain ⟨hl, e⟩ := List.getElem?_eq_some_iff.1 h
  exact ⟨by rw [← e, ← List.drop_eq_getElem_cons hl, List.take_append_drop], by rw [List.length_take]; omega⟩
theorem one_str (s : ByteArray) (v : Value) (hv : v.oneCell' = true) : ∀ u ∈ [Value.string s, v], u.oneCell' = true := by
  intro u hu
  simp only [List.mem_cons, List.not_mem_nil, or_false] at hu
  rcases hu with rfl | rfl
  · rfl
  · exact hv
theorem row_one {w : World} {e k n : Nat} {v : Value} {xs : List Value} (h : w.ownsRow 0 e k v n xs) : v.oneCell' = true := by
  obtain ⟨a, c, rfl, _⟩ := row_val h
  rfl
set_option maxHeartbeats 1000000 in
theorem named_any (g : Nat) (tv mv : Value) (dm : Nat) (L : List TV) (s : ByteArray) (w : World) (h : CM w g tv dm mv L) : Calls Try.prog 27 #[.pointer (some ⟨g, 0, none⟩), .string s] w fun e w' => e = .returned (.int .i64 (nam (strip L) s : Int)) ∧ Hid (Below w.heap.size w w') := by
  have hI : In (fun _ => True) g tv mv L := ⟨trivial, fun _ _ => trivial, fun _ _ _ _ => trivial, fun _ _ => trivial⟩
  have HM : Hid (∀ W, Below w.heap.size w W → CM W g tv dm mv L) := fun W b => h.upd (Upd.of_below Non b) hI (fun _ _ q => q)
  have HL : Hid (L.length ≤ 64) := by have := h.ok.len; rwa [strip_len] at this
  obtain ⟨a, c, rfl, _, hv⟩ := row_val h.row
  have c0 : w.cell? ⟨g, 0, none⟩ = some (.slice a L.length c) := h.blk.cell 0
  have HV : Hid (L.length = 0 ∨ ∃ b, a = some ⟨b, 0, none⟩ ∧ ∀ W, Below w.heap.size w W → ∃ sp, Blk W b 87 (tbs L ++ sp)) := by
    rcases hv with ⟨h0, _⟩ | ⟨b, sp, rfl, hb, _⟩
    · exact .inl h0
    · exact .inr ⟨b, rfl, fun W q => ⟨sp, hb.below q hb.lt⟩⟩
  obtain ⟨n, hn⟩ : ∃ n, L.length = n := ⟨_, rfl⟩
  rw [hn] at c0
  have HN : Hid (L.length = n) := hn
  clear h hv hn hI
  go_enter Try.func27, Try.ntmps27
  go_wp2
  go_loopw [14] (fun i wr => ∃ k : Nat, k ≤ n ∧ i = .int .i64 (k : Int) ∧ Hid (Below w.heap.size w wr) ∧ Hid (nam (strip L) s = namF s k ((strip L).drop k))) (fun i _ => n - (intOf i).toNat)
  case atStart => exact ⟨0, by omega, rfl, Below.refl _ _, rfl⟩
  case round =>
    obtain ⟨k, hk, rfl, HB, HE⟩ := hrel
    by_cases hlt : k < n
    case neg =>
      have hlt' : ¬ (k : Int) < (n : Int) := by omega
      have HZ : Hid (nam (strip L) s = 0) := by
        show _ = _
        rw [HE.out, List.drop_of_length_le (by rw [strip_len, HN.out]; omega)]
        rfl
      clear HE
      go_wp2
      go_ret
      exact ⟨by rw [HZ.out]; rfl, HB.out⟩
    have hlt' : (k : Int) < (n : Int) := by omega
    obtain ⟨p, hp⟩ : ∃ p, L[k]? = some p := ⟨_, List.getElem?_eq_getElem (by rw [HN.out]; exact hlt)⟩
    obtain ⟨e1, e2⟩ := at_split hp
    have hA : (strip L)[k]? = some p.1 := by simp [strip, hp]
    have HS : Hid (nam (strip L) s = if (bq p.1.name s && !p.1.gone) = true then k + 1 else namF s (k + 1) ((strip L).drop (k + 1))) := HE.out.trans (namF_at s hA)
    have HG : Hid (goneB (strip L) ((k : Int) + 1) = p.1.gone) := by show _ = _; unfold goneB; rw [tbl_nat, hA]
    have HT : Hid (thereB (strip L) ((k : Int) + 1) = true) := by show _ = _; unfold thereB; rw [strip_len, HN.out]; simp; omega
    obtain ⟨b, rfl, hbl⟩ := HV.out.resolve_left (by rw [HN.out]; omega)
    obtain ⟨sp, hb1⟩ := hbl wr HB.out
    rw [e1] at hb1
    have HR : Hid (wr.rangeAt b (k * 2) [.string p.1.name, p.2]) := by have := tb_rng hb1; rwa [e2] at this
    obtain ⟨⟨nm, fs, gn⟩, fv⟩ := p
    have hfv : ∃ fa fc, fv = .slice fa fs.length fc := by
      obtain ⟨fa, fc, e, _⟩ := row_val ((HM.out wr HB.out).fld _ (List.mem_of_getElem? hp))
      exact ⟨fa, fc, e⟩
    obtain ⟨fa, fc, rfl⟩ := hfv
    obtain ⟨m, Hm⟩ : ∃ m, Hid (fs.length = m) := ⟨_, rfl⟩
    simp only [Hm.out] at HR
    have hk64 : k < 64 := by have := HL.out; have := HN.out; omega
    have w1 : wrap64 ((k : Int) + 1) = (k : Int) + 1 := wrap_small (n := k + 1) (by omega) (by omega)
    have hx1 : ¬ ((k : Int) < 0) := by omega
    have hx2 : ¬ ((n : Int) ≤ (k : Int)) := by omega
    have HB2 : Hid (Below w.heap.size w (wr.alloc (.cells #[.string nm, .slice fa m fc] 87))) := HB.out.alloc HB.out.size _
    have K := gone_any g (.slice (some ⟨b, 0, none⟩) L.length c) mv dm L ((k : Int) + 1) _ (HM.out _ HB2.out) HT.out
    rw [HG.out] at K
    have HS' : Hid (nam (strip L) s = if (bq nm s && !gn) = true then k + 1 else namF s (k + 1) ((strip L).drop (k + 1))) := HS.out
    clear hb1 hbl e1 e2 hA hp HE HS HG HT HV c0
    cases hq : bq nm s with
    | false =>
      have hq' : (nm.toList == s.toList) = false := hq
      have hq2 : ¬ nm.toList = s.toList := by simpa using hq'
      rw [hq] at HS'
      clear K hq
      go_wp2_with (refine ld_w rfl 87 (.tmp 17) rfl b (k * 2) (by first | rfl | simp) [.string nm, .slice fa m fc] _ HR.out Try.underlying87 rfl (sTb _ _) ?_)
      go_roundw
      case rel => exact ⟨k + 1, by omega, by go_num, HB2.out, by show _ = _; rw [HS'.out]; simp⟩
      case measure => simp [intOf]; omega
    | true =>
      have hq2 : nm.toList = s.toList := beq_iff_eq.1 hq
      rw [hq] at HS'
      cases gn with
      | true =>
        go_wp2_with (first | (refine ld_w rfl 87 (.tmp 17) rfl b (k * 2) (by first | rfl | simp) [.string nm, .slice fa m fc] _ HR.out Try.underlying87 rfl (sTb _ _) ?_) | (go_at_call 35; refine K.mono ?_; clear K; rintro e w' ⟨rfl, rfl⟩))
        go_roundw
        case rel => exact ⟨k + 1, by omega, by go_num, HB2.out, by show _ = _; rw [HS'.out]; simp⟩
        case measure => simp [intOf]; omega
      | false =>
        have HZ : Hid (nam (strip L) s = k + 1) := by show _ = _; rw [HS'.out]; simp
        go_wp2_with (first | (refine ld_w rfl 87 (.tmp 17) rfl b (k * 2) (by first | rfl | simp) [.string nm, .slice fa m fc] _ HR.out Try.underlying87 rfl (sTb _ _) ?_) | (go_at_call 35; refine K.mono ?_; clear K; rintro e w' ⟨rfl, rfl⟩))
        go_ret
        exact ⟨by rw [HZ.out]; rfl, HB2.out⟩
#print axioms named_any
#print axioms live_any
end Go.Proofs.Ytbkogaencjmmgaa
