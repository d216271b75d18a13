/-
  The document's own reader of codec: one, number, count, text. · The document's own reader of codec: number, count, text. · The document's own reader of codec: text. · The document's own reader of codec: what lies in memory while it reads a nest; what its value answers.
-/
import Derived.Test.YtimddoaejldgaaaXq
import Derived.Test.YtimddoaejldgaaaOruvr
import Derived.Laws.BytesArg
namespace Go.Proofs.Ytimddoaejldgaaa
open Go.RowKit Math
set_option linter.unusedVariables false
set_option linter.unusedSimpArgs false
/-- The document's reader in memory: what is left to read, and the error. -/
structure Rq (w0 : World) (r : Nat) (w : World) (l : List Nat) (e : Int) : Prop where
  ex : ∃ a c, Blk w r 63 [.slice a l.length c, .int .i64 e] ∧ Byt w0 a l ∧ (a = none → c = 0) ∧ l.length ≤ c ∧ c ≤ 9223372036854775807
  bl : Below w0.heap.size w0 w
  lt : w0.heap.size ≤ r
  oct : Oct l
  len : l.length ≤ 1000000
/-- One step: behind an error nothing is done. -/
def Sq {α : Type} (f : Rdr α) (l : List Nat) (err : Int) (l' : List Nat) (err' : Int) (x : α) : Prop :=
  (err ≠ 0 ∧ l' = l ∧ err' = err) ∨ (err = 0 ∧ ((f l = .ok (x, l') ∧ err' = 0) ∨ ∃ e : Nat, f l = .error e ∧ err' = (e : Int) ∧ e ≠ 0))
def QdC {α : Type} (F : Nat) (f : Rdr α) (val : α → Value) (P Z : α → Prop) : Prop := ∀ (w0 W : World) (r : Nat) (l : List Nat) (err : Int), Rq w0 r W l err →
  Calls Try.prog F #[.pointer (some ⟨r, 0, none⟩)] W fun e w' => ∃ x l' err', e = .returned (val x) ∧ P x ∧ (err' ≠ 0 → Z x) ∧ Hid (Rq w0 r w' l' err' ∧ W.grownBy w' (some r) ∧ Sq f l err l' err' x)
theorem Rq.same {w0 : World} {r : Nat} {w w' : World} {l : List Nat} {e : Int} (h : Rq w0 r w l e) {a : Option Addr} {c : Nat} {l' : List Nat} {e' : Int} (hb : Blk w' r 63 [.slice a l'.length c, .int .i64 e']) (hg : w.grownBy w' (some r)) (h1 : Byt w0 a l') (h2 : a = none → c = 0) (h3 : l'.length ≤ c) (h4 : c ≤ 9223372036854775807) (h5 : Oct l') (h6 : l'.length ≤ 1000000) : Rq w0 r w' l' e' :=
  ⟨⟨a, c, hb, h1, h2, h3, h4⟩, h.bl.grown hg h.bl.size (fun x e => by injection e with e; have := h.lt; omega), h.lt, h5, h6⟩
theorem sz5 (w : World) : (Go.sizeOf 5).run Try.prog w = .ok 1 w := by
  have : (Try.prog.info? 5).map (·.size) = some 1 := by kernel_rfl
  cases hq : Try.prog.info? 5 with
  | none => simp [hq] at this
  | some i => simp [hq] at this; simp [Go.sizeOf, typeInfo, hq, this]
/-- What is behind the first n bytes. -/
theorem sl_byt {ops : Array Oper} {rest : List Oper} {o : Oper} {a : Act} {w : World} {Q : Exit → Act → World → Prop} (hg : o.guard = none) (x y : Operand) (ho : o.op = .slice 29 x (some y) none none)
    (A : Option Addr) (cap n : Nat) (l : List Nat) (w0 : World) (z : Int) (hz : z = (n : Int)) (hx : a.eval x = .slice A l.length cap) (hy : a.eval y = .int .i64 z) (hn : n ≤ l.length) (hc : l.length ≤ cap) (hB : Byt w0 A l) (hnil : A = none → cap = 0)
    (h : ∀ A', Byt w0 A' (l.drop n) → (A' = none → cap - n = 0) → wpList Try.prog ops Q rest (a.put o.dst (.slice A' (l.length - n) (cap - n))) w) : wpList Try.prog ops Q (o :: rest) a w := by
  subst hz
  refine wpList_plain hg fun K hK => ?_
  unfold Oper.wp execOp
  simp only [ho, hx, hy, Option.map_some, Option.map_none, run_fromW 29 5 Try.underlying29 1 sz5 A l.length cap n hn w, Sem.run_bind, Result.andThen_ok, Sem.run_pure]
  refine hK _ _ (h _ ?_ ?_)
  · by_cases hcn : cap = n
    · left
      exact List.drop_of_length_le (by omega)
    · rw [if_neg hcn]
      rcases hB with rfl | ⟨b, off, rfl, hcl⟩
      · left
        simp
      · right
        exact ⟨b, off + n, by simp [Addr.add_lit], byt_drop hcl n⟩
  · intro h0
    by_cases hcn : cap = n
    · omega
    · rw [if_neg hcn] at h0
      cases A with
      | none => have := hnil rfl; omega
      | some ad => simp at h0
theorem s29 : (Try.prog.info? 29).map (·.size) = some 1 := by kernel_rfl
set_option maxRecDepth 8000 in
theorem qone_any : QdC 47 byR (fun x => .int .u8 (x : Int)) (· < 256) (· = 0) := by
  intro w0 W r l err hR
  obtain ⟨a, c, hb, hB, hnil, hlc, hcm⟩ := hR.ex
  have HR : Hid (Rq w0 r W l err) := hR
  have HBk : Hid (Blk W r 63 [.slice a l.length c, .int .i64 err]) := hb
  have HB : Hid (Byt w0 a l) := hB
  have c0 : W.cell? ⟨r, 0, none⟩ = some (.slice a l.length c) := hb.cell 0
  have c1 : W.cell? ⟨r, 1, none⟩ = some (.int .i64 err) := hb.cell 1
  have HNl : Hid (a = none → c = 0) := hnil
  clear hR hb hB hnil
  by_cases he : err = 0
  case neg =>
    have h1 : (err == 0) = false := by simpa using he
    have h2 : (err != 0) = true := by simpa using he
    go_enter Try.func47, Try.ntmps47
    go_wp2
    go_ret
    exact ⟨0, l, err, rfl, by omega, fun _ => rfl, HR.out, World.grownBy.refl _ _, .inl ⟨he, rfl, rfl⟩⟩
  subst he
  cases l with
  | nil =>
    have hlz : (([] : List Nat).length : Int) = 0 := rfl
    go_enter Try.func47, Try.ntmps47
    go_wp2_with (refine st_one rfl 3 (.tmp 19) (.const (.int .i64 2)) rfl r 1 63 _ (.int .i64 2) rfl rfl rfl rfl (by simp) HBk.out s3 ?_)
    intro w1 b1 g1
    have c1' : w1.cell? ⟨r, 1, none⟩ = some (.int .i64 2) := b1.cell 1
    have HF : Hid (Rq w0 r w1 [] 2 ∧ W.grownBy w1 (some r) ∧ Sq byR [] 0 [] 2 0) := ⟨HR.out.same (a := a) (c := c) b1 g1 HB.out HNl.out (by simp) hcm (by intro x hx; simp at hx) (by simp), g1, .inr ⟨rfl, .inr ⟨2, rfl, rfl, by decide⟩⟩⟩
    clear b1 g1
    go_wp2
    go_ret
    exact ⟨0, [], 2, rfl, by omega, fun _ => rfl, HF.out⟩
  | cons x t =>
    obtain ⟨bb, ob, rfl, hcl⟩ : ∃ b o, a = some ⟨b, o, none⟩ ∧ Cells w0 b o (x :: t) := by
      rcases HB.out with h | h
      · cases h
      · exact h
    have hx : x < 256 := HR.out.oct x (by simp)
    have hcx : W.cell? ⟨bb, ob, none⟩ = some (.int .u8 (x : Int)) := by
      have := hcl 0 (by simp)
      rw [Nat.add_zero] at this
      exact (HR.out.bl.cell (p := ⟨bb, ob, none⟩) (cell_lt this)).trans this
    have hl0 : (((x :: t).length : Int) == 0) = false := beq_eq_false_iff_ne.2 (by simp only [List.length_cons]; omega)
    have hlp : 0 < (x :: t).length := by simp
    clear hcl
    go_enter Try.func47, Try.ntmps47
    go_wp2_with (refine sl_byt rfl (.tmp 35) (.const (.int .i64 1)) rfl (some ⟨bb, ob, none⟩) c 1 (x :: t) w0 1 rfl rfl rfl (by simp) hlc HB.out (by intro h; cases h) ?_)
    intro A' hA hAn
    have HA : Hid (Byt w0 A' t ∧ (A' = none → c - 1 = 0)) := ⟨hA, hAn⟩
    clear hA hAn
    go_wp2_with (refine st_one rfl 29 (.tmp 38) (.tmp 36) rfl r 0 63 _ (.slice A' ((x :: t).length - 1) (c - 1)) rfl rfl rfl rfl (by simp) HBk.out s29 ?_)
    intro w1 b1 g1
    have HF : Hid (Rq w0 r w1 t 0 ∧ W.grownBy w1 (some r) ∧ Sq byR (x :: t) 0 t 0 x) := ⟨HR.out.same (a := A') (c := c - 1) b1 g1 HA.out.1 HA.out.2 (by simp only [List.length_cons] at hlc; omega) (by omega) (fun y hy => HR.out.oct y (by simp [hy])) (by have := HR.out.len; simp only [List.length_cons] at this; omega), g1, .inr ⟨rfl, .inl ⟨rfl, rfl⟩⟩⟩
    clear b1 g1
    go_wp2
    go_ret
    exact ⟨x, t, 0, rfl, hx, fun h => absurd rfl h, HF.out⟩
end Go.Proofs.Ytimddoaejldgaaa
namespace Go.Proofs.Ytimddoaejldgaaa
open Go.RowKit Math
set_option linter.unusedVariables false
set_option linter.unusedSimpArgs false
theorem sq_bind {α β : Type} {f : Rdr α} {g : α → Rdr β} {l l1 l2 : List Nat} {err e1 e2 : Int} {x : α} {y : β} (h : Sq f l err l1 e1 x) (h2 : Sq (g x) l1 e1 l2 e2 y) : Sq (f.bind g) l err l2 e2 y := by
  rcases h with ⟨a, rfl, rfl⟩ | ⟨a, ⟨b, rfl⟩ | ⟨e, b, rfl, c⟩⟩
  · rcases h2 with ⟨_, rfl, rfl⟩ | ⟨h, _⟩
    · exact .inl ⟨a, rfl, rfl⟩
    · exact absurd h a
  · right
    refine ⟨a, ?_⟩
    rw [bind_ok b]
    rcases h2 with ⟨h, _⟩ | ⟨_, h⟩
    · exact absurd rfl h
    · exact h
  · right
    refine ⟨a, .inr ⟨e, bind_err b, ?_, c⟩⟩
    rcases h2 with ⟨_, _, h⟩ | ⟨h, _⟩
    · exact h
    · exact absurd (Int.ofNat_eq_zero.1 h) c
theorem sq_ret {α : Type} (x : α) (l : List Nat) (err : Int) : Sq (Rdr.ret x) l err l err x := by
  by_cases h : err = 0
  · exact .inr ⟨h, .inl ⟨rfl, h⟩⟩
  · exact .inl ⟨h, rfl, rfl⟩
theorem sq_err0 {α : Type} {f : Rdr α} {l l' : List Nat} {err err' : Int} {x : α} (h : Sq f l err l' err' x) (he : err' = 0) : err = 0 := by
  rcases h with ⟨a, _, c⟩ | ⟨a, _⟩
  · exact absurd (c ▸ he) a
  · exact a
set_option maxRecDepth 8000 in
theorem qnum_any : QdC 49 uvR (fun u => .int .u64 (u : Int)) (· < 18446744073709551616) (· = 0) := by
  intro w0 W r l err hR
  obtain ⟨a, c, hb, hB, hnil, hlc, hcm⟩ := hR.ex
  have HR : Hid (Rq w0 r W l err) := hR
  have HBk : Hid (Blk W r 63 [.slice a l.length c, .int .i64 err]) := hb
  have HB : Hid (Byt w0 a l) := hB
  have c0 : W.cell? ⟨r, 0, none⟩ = some (.slice a l.length c) := hb.cell 0
  have c1 : W.cell? ⟨r, 1, none⟩ = some (.int .i64 err) := hb.cell 1
  have HNl : Hid (a = none → c = 0) := hnil
  clear hR hb hB hnil
  by_cases he : err = 0
  case neg =>
    have h2 : (err != 0) = true := by simpa using he
    go_enter Try.func49, Try.ntmps49
    go_wp2
    go_ret
    exact ⟨0, l, err, rfl, by omega, fun _ => rfl, HR.out, World.grownBy.refl _ _, .inl ⟨he, rfl, rfl⟩⟩
  subst he
  obtain ⟨u, n, e, ht⟩ : ∃ u n e, ruv l 0 0 = (u, n, e) := ⟨_, _, _, rfl⟩
  have KU := ruvr_any a c l HR.out.len W (HB.out.below HR.out.bl) HR.out.oct
  rw [ht] at KU
  replace KU : Calls Try.prog 67 #[.slice a l.length c] W fun e' w' => e' = .returned (.tuple #[.int .u64 (u : Int), .int .i64 (n : Int), .int .i64 (e : Int)]) ∧ w' = W := KU
  by_cases h : e = 0
  · subst h
    obtain ⟨hu, hnl, _, _⟩ := ruv_good HR.out.oct (by rw [ht])
    rw [ht] at hu hnl
    have HS : Hid (Sq uvR l 0 (l.drop n) 0 u) := .inr ⟨rfl, .inl ⟨by unfold uvR; rw [ht]; rfl, rfl⟩⟩
    clear ht
    go_enter Try.func49, Try.ntmps49
    go_wp2_with fail
    refine KU.mono ?_
    clear KU
    rintro e' w' ⟨rfl, rfl⟩
    go_wp2_with (refine sl_byt rfl (.tmp 30) (.tmp 31) rfl a c n l w0 _ rfl rfl rfl hnl hlc HB.out HNl.out ?_)
    intro A' hA hAn
    have HA : Hid (Byt w0 A' (l.drop n) ∧ (A' = none → c - n = 0)) := ⟨hA, hAn⟩
    clear hA hAn
    go_wp2_with (refine st_one rfl 29 (.tmp 34) (.tmp 32) rfl r 0 63 _ (.slice A' (l.length - n) (c - n)) rfl rfl rfl rfl (by simp) HBk.out s29 ?_)
    intro w1 b1 g1
    have HF : Hid (Rq w0 r w1 (l.drop n) 0 ∧ w'.grownBy w1 (some r) ∧ Sq uvR l 0 (l.drop n) 0 u) := by
      refine ⟨HR.out.same (a := A') (c := c - n) ?_ g1 HA.out.1 HA.out.2 (by rw [List.length_drop]; omega) (by omega) (oct_drop HR.out.oct n) (by rw [List.length_drop]; have := HR.out.len; omega), g1, HS.out⟩
      rw [List.length_drop]
      exact b1
    clear b1 g1
    go_wp2
    go_ret
    exact ⟨u, l.drop n, 0, rfl, hu, fun h => absurd rfl h, HF.out⟩
  · obtain ⟨hu, hn⟩ := ruv_bad l 0 0 (by rw [ht]; exact h)
    rw [ht] at hu hn
    simp only at hu hn
    subst hu hn
    have HS : Hid (Sq uvR l 0 l (e : Int) 0) := .inr ⟨rfl, .inr ⟨e, by unfold uvR; rw [ht]; simp [h], rfl, h⟩⟩
    have heb : ((e : Int) != 0) = true := by simpa using h
    clear ht
    go_enter Try.func49, Try.ntmps49
    go_wp2_with fail
    refine KU.mono ?_
    clear KU
    rintro e' w' ⟨rfl, rfl⟩
    go_wp2_with (refine st_one rfl 3 (.tmp 25) (.tmp 23) rfl r 1 63 _ (.int .i64 (e : Int)) rfl rfl rfl rfl (by simp) HBk.out s3 ?_)
    intro w1 b1 g1
    have HF : Hid (Rq w0 r w1 l (e : Int) ∧ w'.grownBy w1 (some r) ∧ Sq uvR l 0 l (e : Int) 0) := ⟨HR.out.same (a := a) (c := c) b1 g1 HB.out HNl.out hlc hcm HR.out.oct HR.out.len, g1, HS.out⟩
    clear b1 g1
    go_wp2
    go_ret
    exact ⟨0, l, (e : Int), rfl, by omega, fun _ => rfl, HF.out⟩
set_option maxRecDepth 8000 in
theorem qcnt_any : QdC 51 lenR (fun x => .int .i64 (x : Int)) (· ≤ 65536) (· = 0) := by
  intro w0 W r l err hR
  have K := qnum_any w0 W r l err hR
  clear hR
  go_enter Try.func51, Try.ntmps51
  go_wp2_with fail
  refine K.mono ?_
  clear K
  rintro e w1 ⟨u, l1, e1, rfl, hu, hz, H⟩
  obtain ⟨a, c, hb, hB, hnil, hlc, hcm⟩ := H.out.1.ex
  have HBk : Hid (Blk w1 r 63 [.slice a l1.length c, .int .i64 e1]) := hb
  have HB : Hid (Byt w0 a l1 ∧ (a = none → c = 0)) := ⟨hB, hnil⟩
  have c1 : w1.cell? ⟨r, 1, none⟩ = some (.int .i64 e1) := hb.cell 1
  clear hb hB hnil
  by_cases he : e1 = 0
  case neg =>
    have h1 : (e1 == 0) = false := by simpa using he
    have h2 : (e1 != 0) = true := by simpa using he
    have HF : Hid (Rq w0 r w1 l1 e1 ∧ W.grownBy w1 (some r) ∧ Sq lenR l err l1 e1 0) := ⟨H.out.1, H.out.2.1, sq_bind H.out.2.2 (.inl ⟨he, rfl, rfl⟩)⟩
    clear H
    go_wp2
    go_ret
    exact ⟨0, l1, e1, rfl, by omega, fun _ => rfl, HF.out⟩
  subst he
  by_cases hbig : 65536 < u
  · have hb2 : decide ((65536 : Int) < (u : Int)) = true := decide_eq_true (by omega)
    go_wp2_with (refine st_one rfl 3 (.tmp 17) (.const (.int .i64 3)) rfl r 1 63 _ (.int .i64 3) rfl rfl rfl rfl (by simp) HBk.out s3 ?_)
    intro w2 b2 g2
    have c1' : w2.cell? ⟨r, 1, none⟩ = some (.int .i64 3) := b2.cell 1
    have HF : Hid (Rq w0 r w2 l1 3 ∧ W.grownBy w2 (some r) ∧ Sq lenR l err l1 3 0) := by
      refine ⟨H.out.1.same (a := a) (c := c) b2 g2 HB.out.1 HB.out.2 hlc hcm H.out.1.oct H.out.1.len, H.out.2.1.trans g2, sq_bind H.out.2.2 ?_⟩
      rw [if_pos hbig]
      exact .inr ⟨rfl, .inr ⟨3, rfl, rfl, by decide⟩⟩
    clear b2 g2 H c1
    go_wp2
    go_ret
    exact ⟨0, l1, 3, rfl, by omega, fun _ => rfl, HF.out⟩
  · have hb2 : decide ((65536 : Int) < (u : Int)) = false := decide_eq_false (by omega)
    have HF : Hid (Rq w0 r w1 l1 0 ∧ W.grownBy w1 (some r) ∧ Sq lenR l err l1 0 u) := by
      refine ⟨H.out.1, H.out.2.1, sq_bind H.out.2.2 ?_⟩
      rw [if_neg hbig]
      exact sq_ret _ _ _
    clear H
    go_wp2
    go_ret
    exact ⟨u, l1, 0, rfl, by omega, fun h => absurd rfl h, HF.out⟩
end Go.Proofs.Ytimddoaejldgaaa
namespace Go.Proofs.Ytimddoaejldgaaa
open Go.RowKit Math
set_option linter.unusedVariables false
set_option linter.unusedSimpArgs false
theorem byt_tk {w : World} {a : Option Addr} {l : List Nat} (h : Byt w a l) (k : Nat) : Byt w a (l.take k) := by
  rcases h with rfl | ⟨b, o, rfl, hc⟩
  · exact .inl (by simp)
  · refine .inr ⟨b, o, rfl, ?_⟩
    have : Cells w b o (l.take k ++ l.drop k) := by rw [List.take_append_drop]; exact hc
    exact this.left
theorem conv_byt {w : World} {a : Option Addr} {l : List Nat} {c : Nat} (h : Byt w a l) (ho : Oct l) (hnil : a = none → c = 0) : (convert 29 9 (.slice a l.length c)).run Try.prog w = .ok (.string (ofB l)) w := by
  cases a with
  | none =>
    have hl : l = [] := by
      rcases h with h | ⟨_, _, h, _⟩
      · exact h
      · cases h
    subst hl
    exact run_convert_bytes_nil w 29 5 Try.underlying29 Try.underlying5 0 c 9 Try.underlying9
  | some ad =>
    rw [← strOf _ ho]
    by_cases hl : l = []
    · subst hl
      rw [run_convert_bytes_string w 29 9 5 (some ad) ([] : List Nat).length c Try.underlying29 Try.underlying5 Try.underlying9]
      have hl : (loadCells ad 0).run Try.prog w = .ok #[] w := by simpa using run_loadCells_list (P := Try.prog) w ad [] (by simp)
      simp [Conv.bytesToString, hl, strOfNums]
      try rfl
    · rcases h with h | ⟨b, o, h, hc⟩
      · exact absurd h hl
      · obtain rfl := Option.some.inj h
        refine run_convert_bytes_arg w 29 5 Try.underlying29 Try.underlying5 b o l.length c _ (by rw [List.length_map]) (fun k hk => ?_) 9 Try.underlying9
        have := hc k hk
        rw [this]
        simp [List.getD_eq_getElem?_getD, hk]
set_option maxRecDepth 8000 in
theorem qtxt_any : QdC 50 txR (fun s => .string s) (fun s => s.size ≤ 65536) (fun s => s = em) := by
  intro w0 W r l err hR
  have K := qcnt_any w0 W r l err hR
  clear hR
  go_enter Try.func50, Try.ntmps50
  go_wp2_with fail
  refine K.mono ?_
  clear K
  rintro e w1 ⟨n, l1, e1, rfl, hn, hz, H⟩
  obtain ⟨a, c, hb, hB, hnil, hlc, hcm⟩ := H.out.1.ex
  have HBk : Hid (Blk w1 r 63 [.slice a l1.length c, .int .i64 e1]) := hb
  have HB : Hid (Byt w0 a l1 ∧ (a = none → c = 0)) := ⟨hB, hnil⟩
  have c0 : w1.cell? ⟨r, 0, none⟩ = some (.slice a l1.length c) := hb.cell 0
  have c1 : w1.cell? ⟨r, 1, none⟩ = some (.int .i64 e1) := hb.cell 1
  clear hb hB hnil
  by_cases he : e1 = 0
  case neg =>
    have h1 : (e1 == 0) = false := by simpa using he
    have h2 : (e1 != 0) = true := by simpa using he
    have HF : Hid (Rq w0 r w1 l1 e1 ∧ W.grownBy w1 (some r) ∧ Sq txR l err l1 e1 em) := ⟨H.out.1, H.out.2.1, sq_bind H.out.2.2 (.inl ⟨he, rfl, rfl⟩)⟩
    clear H
    go_wp2
    go_ret
    exact ⟨em, l1, e1, rfl, by decide, fun _ => rfl, HF.out⟩
  subst he
  by_cases hsh : l1.length < n
  · have hb2 : decide ((l1.length : Int) < (n : Int)) = true := decide_eq_true (by omega)
    go_wp2_with (refine st_one rfl 3 (.tmp 23) (.const (.int .i64 2)) rfl r 1 63 _ (.int .i64 2) rfl rfl rfl rfl (by simp) HBk.out s3 ?_)
    intro w2 b2 g2
    have c1' : w2.cell? ⟨r, 1, none⟩ = some (.int .i64 2) := b2.cell 1
    have HF : Hid (Rq w0 r w2 l1 2 ∧ W.grownBy w2 (some r) ∧ Sq txR l err l1 2 em) := by
      refine ⟨H.out.1.same (a := a) (c := c) b2 g2 HB.out.1 HB.out.2 hlc hcm H.out.1.oct H.out.1.len, H.out.2.1.trans g2, sq_bind H.out.2.2 ?_⟩
      refine .inr ⟨rfl, .inr ⟨2, bind_err ?_, rfl, by decide⟩⟩
      unfold takeR
      rw [if_pos hsh]
    clear b2 g2 H c0 c1
    go_wp2
    go_ret
    exact ⟨em, l1, 2, rfl, by decide, fun _ => rfl, HF.out⟩
  · have hb2 : decide ((l1.length : Int) < (n : Int)) = false := decide_eq_false (by omega)
    have hnc : n ≤ c := by omega
    have hT : (l1.take n).length = n := by rw [List.length_take]; omega
    have HBt : Hid (Byt w1 a (l1.take n)) := byt_tk (HB.out.1.below H.out.1.bl) n
    have HOt : Hid (Oct (l1.take n)) := fun x hx => H.out.1.oct x (List.mem_of_mem_take hx)
    have hcv := conv_byt (c := c) HBt.out HOt.out HB.out.2
    rw [hT] at hcv
    have hsz : (ofB (l1.take n)).size ≤ 65536 := by rw [ofB_size, hT]; exact hn
    have HS : Hid (Sq txR l err (l1.drop n) 0 (ofB (l1.take n))) := by
      refine sq_bind H.out.2.2 (.inr ⟨rfl, .inl ⟨?_, rfl⟩⟩)
      have : takeR n l1 = .ok (l1.take n, l1.drop n) := by
        unfold takeR
        rw [if_neg hsh]
      rw [bind_ok this]
      rfl
    generalize ofB (l1.take n) = s at *
    clear HBt HOt hT
    go_wp2_with (first | (refine sl_to rfl 29 (.tmp 32) (.tmp 33) rfl 5 Try.underlying29 1 sz5 a l1.length c n _ rfl rfl rfl hnc ?_) | (refine sl_byt rfl (.tmp 40) (.tmp 41) rfl a c n l1 w0 _ rfl rfl rfl (by omega) hlc HB.out.1 HB.out.2 ?_))
    intro A' hA hAn
    have HA : Hid (Byt w0 A' (l1.drop n) ∧ (A' = none → c - n = 0)) := ⟨hA, hAn⟩
    clear hA hAn
    go_wp2_with (refine st_one rfl 29 (.tmp 44) (.tmp 42) rfl r 0 63 _ (.slice A' (l1.length - n) (c - n)) rfl rfl rfl rfl (by simp) HBk.out s29 ?_)
    intro w2 b2 g2
    have HF : Hid (Rq w0 r w2 (l1.drop n) 0 ∧ W.grownBy w2 (some r) ∧ Sq txR l err (l1.drop n) 0 s) := by
      refine ⟨H.out.1.same (a := A') (c := c - n) ?_ g2 HA.out.1 HA.out.2 (by rw [List.length_drop]; omega) (by omega) (oct_drop H.out.1.oct n) (by rw [List.length_drop]; have := H.out.1.len; omega), H.out.2.1.trans g2, HS.out⟩
      rw [List.length_drop]
      exact b2
    clear b2 g2 H
    go_wp2
    go_ret
    exact ⟨s, l1.drop n, 0, rfl, hsz, fun h => absurd rfl h, HF.out⟩
end Go.Proofs.Ytimddoaejldgaaa
namespace Go.Proofs.Ytimddoaejldgaaa
open Go.RowKit Math
set_option linter.unusedVariables false
set_option linter.unusedSimpArgs false
theorem Rq.keep {w0 : World} {r : Nat} {w w' : World} {l : List Nat} {e : Int} {row : Option Nat} (h : Rq w0 r w l e) (hne : some r ≠ row) (g : w.grownBy w' row) (hr : ∀ x, row = some x → w0.heap.size ≤ x) : Rq w0 r w' l e := by
  obtain ⟨a, c, h1, h2⟩ := h.ex
  exact ⟨⟨a, c, h1.kept g hne, h2⟩, h.bl.grown g h.bl.size hr, h.lt, h.oct, h.len⟩
structure Ro2 (w0 : World) (r : Nat) (W wr : World) (l : List Nat) (e : Int) : Prop where
  rq : Rq w0 r wr l e
  gr : W.grownBy wr (some r)
theorem Ro2.trans {w0 : World} {r : Nat} {W w1 w2 : World} {l l' : List Nat} {e e' : Int} (h : Ro2 w0 r W w1 l e) (k : Ro2 w0 r w1 w2 l' e') : Ro2 w0 r W w2 l' e' := ⟨k.rq, h.gr.trans k.gr⟩
theorem Ro2.then {w0 : World} {r : Nat} {W w1 w2 : World} {l : List Nat} {e : Int} (h : Ro2 w0 r W w1 l e) (k : Below w1.heap.size w1 w2) : Ro2 w0 r W w2 l e := by
  have g : w1.grownBy w2 none := ⟨k.os, k.tape, k.output, k.size, fun x hx _ => k.block x hx⟩
  exact ⟨h.rq.keep (by simp) g (fun x c => by cases c), ⟨k.os.trans h.gr.os, k.tape.trans h.gr.tape, k.output.trans h.gr.output, Nat.le_trans h.gr.size k.size, fun x hx hne => (k.block x (Nat.lt_of_lt_of_le hx h.gr.size)).trans (h.gr.block x hx hne)⟩⟩
structure NJ (B g6 g8 r : Nat) (w0 : World) (W : World) (k : Int) (wr : World) (l : List Nat) (e : Int) (ns : List ByteArray) (f : Fo) (vn vk : Value) (cs : List Value) (Lf : List Nat) : Prop where
  ro : Ro2 w0 r W wr l e
  b6 : Blk wr g6 25 zer
  b8 : Blk wr g8 25 [.int .i64 k, .int .i64 0, .int .i64 0, .string ⟨#[]⟩, vn, vk]
  nm : wr.ownsRow B 9 1 vn ns.length (ns.map Value.string)
  kd : wr.ownsRow B 25 6 vk f.list.length cs
  lay : Lay wr f cs Lf
  rng : ∀ x ∈ Lf, B ≤ x ∧ x < wr.heap.size ∧ vn.ownBlock ≠ some x ∧ vk.ownBlock ≠ some x
  nk : ∀ x, vn.ownBlock = some x → vk.ownBlock ≠ some x
  sz : B ≤ wr.heap.size
  w0W : w0.heap.size ≤ W.heap.size
section
variable {B g6 g8 r : Nat} {w0 : World} {W : World} {k : Int} {wr w' : World} {l l' : List Nat} {e e' : Int} {ns : List ByteArray} {f : Fo} {vn vk : Value} {cs : List Value} {Lf : List Nat}
theorem NJ.read (h : NJ B g6 g8 r w0 W k wr l e ns f vn vk cs Lf) (o : Od W r g6 g8 B) (k' : Ro2 w0 r wr w' l' e') : NJ B g6 g8 r w0 W k w' l' e' ns f vn vk cs Lf := by
  have o1 := o.r
  have o2 := o.l6
  have o3 := o.l8
  have o4 := o.lB
  have o5 := h.ro.rq.bl.size
  have o6 := h.w0W
  refine ⟨h.ro.trans k', h.b6.kept k'.gr (by intro c; injection c with c; omega), h.b8.kept k'.gr (by intro c; injection c with c; omega), World.ownsRow.kept h.nm k'.gr (.inr fun c => ?_), World.ownsRow.kept h.kd k'.gr (.inr fun c => ?_), Lay.keep _ h.lay fun x hx => ?_, fun x hx => ?_, h.nk, Nat.le_trans h.sz k'.gr.size, h.w0W⟩
  · have := (World.ownsRow.lt h.nm _ c).1
    omega
  · have := (World.ownsRow.lt h.kd _ c).1
    omega
  · have := h.rng x hx
    exact k'.gr.block x this.2.1 (by intro c; injection c with c; omega)
  · have := h.rng x hx
    have := k'.gr.size
    exact ⟨by omega, by omega, (h.rng x hx).2.2⟩
theorem NJ.below (h : NJ B g6 g8 r w0 W k wr l e ns f vn vk cs Lf) (g : Below wr.heap.size wr w') : NJ B g6 g8 r w0 W k w' l e ns f vn vk cs Lf := by
  have g' : wr.grownBy w' none := ⟨g.os, g.tape, g.output, g.size, fun x hx _ => g.block x hx⟩
  refine ⟨h.ro.then g, h.b6.below g h.b6.lt, h.b8.below g h.b8.lt, World.ownsRow.kept h.nm g' (by simpa using Classical.em _), World.ownsRow.kept h.kd g' (by simpa using Classical.em _), Lay.keep _ h.lay fun x hx => g.block x (h.rng x hx).2.1, fun x hx => ?_, h.nk, Nat.le_trans h.sz g.size, h.w0W⟩
  have := h.rng x hx
  have := g.size
  exact ⟨by omega, by omega, (h.rng x hx).2.2⟩
theorem ro2_grown {w1 : World} {row : Option Nat} (h : Ro2 w0 r W wr l e) (g : wr.grownBy w1 row) (hr : ∀ x, row = some x → x ≠ r ∧ W.heap.size ≤ x ∧ w0.heap.size ≤ x) : Ro2 w0 r W w1 l e := by
  refine ⟨h.rq.keep (fun c => (hr r c.symm).1 rfl) g fun x c => (hr x c).2.2, ⟨g.os.trans h.gr.os, g.tape.trans h.gr.tape, g.output.trans h.gr.output, Nat.le_trans h.gr.size g.size, fun x hx hne => (g.block x (Nat.lt_of_lt_of_le hx h.gr.size) ?_).trans (h.gr.block x hx hne)⟩⟩
  intro c
  have := (hr x c.symm).2.1
  omega
/-- A name more. -/
theorem NJ.name {w1 w2 w3 : World} {vn' : Value} {s : ByteArray} (h : NJ B g6 g8 r w0 W k wr l e ns f vn vk cs Lf) (o : Od W r g6 g8 B) (hb : Below wr.heap.size wr w1) (g : w1.grownBy w2 vn.ownBlock) (hn : w2.ownsRow B 9 1 vn' (ns.length + 1) (ns.map Value.string ++ [.string s])) (hat : vn'.ownBlock = vn.ownBlock ∨ vn'.ownBlock = some w1.heap.size)
    (hs : Blk w3 g8 25 [.int .i64 k, .int .i64 0, .int .i64 0, .string ⟨#[]⟩, vn', vk]) (g3 : w2.grownBy w3 (some g8)) : NJ B g6 g8 r w0 W k w3 l e (ns ++ [s]) f vn' vk cs Lf := by
  have o1 := o.r
  have o2 := o.l6
  have o3 := o.l8
  have o4 := o.lB
  have o5 := h.ro.rq.bl.size
  have o6 := h.w0W
  have h1 := h.below hb
  have hsz := h.ro.gr.size
  have hsz1 := hb.size
  have ln := fun x c => World.ownsRow.lt h1.nm x c
  have lk := fun x c => World.ownsRow.lt h1.kd x c
  have ro2 := ro2_grown h1.ro g (fun x c => by have := ln x c; omega)
  have ro3 := ro2_grown ro2 g3 (fun x c => by injection c with c; omega)
  have ln' := fun x c => World.ownsRow.lt hn x c
  refine ⟨ro3, (h1.b6.kept g fun c => ?_).kept g3 (by intro c; injection c with c; omega), hs, ?_, World.ownsRow.kept (World.ownsRow.kept h1.kd g ?_) g3 (.inr fun c => ?_), Lay.keep _ h1.lay fun x hx => ?_, fun x hx => ?_, fun x c => ?_, Nat.le_trans h1.sz (Nat.le_trans g.size g3.size), h.w0W⟩
  · have := ln _ c.symm
    omega
  · rw [List.length_append, List.map_append]
    exact World.ownsRow.kept hn g3 (.inr fun c => by have := ln' _ c; omega)
  · cases hv : vk.ownBlock with
    | none => exact .inl rfl
    | some x => exact .inr fun c => h1.nk x c.symm hv
  · have := lk _ c
    omega
  · obtain ⟨a1, a2, a3, a4⟩ := h1.rng x hx
    rw [g3.block x (Nat.lt_of_lt_of_le a2 g.size) (by intro c; injection c with c; omega)]
    exact g.block x a2 (fun c => a3 c.symm)
  · obtain ⟨a1, a2, a3, a4⟩ := h1.rng x hx
    have := g.size
    have := g3.size
    refine ⟨a1, by omega, ?_, a4⟩
    rcases hat with c | c
    · rw [c]; exact a3
    · rw [c]; intro c; injection c with c; omega
  · rcases hat with c2 | c2
    · exact h1.nk x (by rw [← c2]; exact c)
    · intro c3
      rw [c2] at c
      injection c with c
      have := lk x c3
      omega
/-- A kid more. -/
theorem NJ.kid {w1 w2 w3 : World} {vk' : Value} {q : Vt} {na : Option Addr} {nc : Nat} {ka : Option Addr} {kc : Nat} {Lq : List Nat} (h : NJ B g6 g8 r w0 W k wr l e ns f vn vk cs Lf) (o : Od W r g6 g8 B) (hv : VlL wr q na nc ka kc Lq) (hr : ∀ x ∈ Lq, B ≤ x ∧ x < wr.heap.size ∧ vn.ownBlock ≠ some x ∧ vk.ownBlock ≠ some x)
    (hb : Below wr.heap.size wr w1) (g : w1.grownBy w2 vk.ownBlock) (hn : w2.ownsRow B 25 6 vk' (f.list.length + 1) (cs ++ six q.1 na nc ka q.2.list.length kc)) (hat : vk'.ownBlock = vk.ownBlock ∨ vk'.ownBlock = some w1.heap.size)
    (hs : Blk w3 g8 25 [.int .i64 k, .int .i64 0, .int .i64 0, .string ⟨#[]⟩, vn, vk']) (g3 : w2.grownBy w3 (some g8)) : NJ B g6 g8 r w0 W k w3 l e ns (f.snoc q) vn vk' (cs ++ six q.1 na nc ka q.2.list.length kc) (Lf ++ Lq) := by
  have o1 := o.r
  have o2 := o.l6
  have o3 := o.l8
  have o4 := o.lB
  have o5 := h.ro.rq.bl.size
  have o6 := h.w0W
  have h1 := h.below hb
  have hsz := h.ro.gr.size
  have hsz1 := hb.size
  have ln := fun x c => World.ownsRow.lt h1.nm x c
  have lk := fun x c => World.ownsRow.lt h1.kd x c
  have ro2 := ro2_grown h1.ro g (fun x c => by have := lk x c; omega)
  have ro3 := ro2_grown ro2 g3 (fun x c => by injection c with c; omega)
  have lk' := fun x c => World.ownsRow.lt hn x c
  have kp : ∀ x, B ≤ x → x < w1.heap.size → vk.ownBlock ≠ some x → w3.heap[x]? = w1.heap[x]? := fun x a1 a2 a4 => by
    rw [g3.block x (Nat.lt_of_lt_of_le a2 g.size) (by intro c; injection c with c; omega)]
    exact g.block x a2 (fun c => a4 c.symm)
  refine ⟨ro3, (h1.b6.kept g fun c => ?_).kept g3 (by intro c; injection c with c; omega), hs, World.ownsRow.kept (World.ownsRow.kept h1.nm g ?_) g3 (.inr fun c => ?_), ?_, lay_snoc (VlL.keep hv fun x hx => ?_) _ (Lay.keep _ h1.lay fun x hx => ?_), fun x hx => ?_, fun x c => ?_, Nat.le_trans h1.sz (Nat.le_trans g.size g3.size), h.w0W⟩
  · have := lk _ c.symm
    omega
  · cases hv : vn.ownBlock with
    | none => exact .inl rfl
    | some x => exact .inr fun c => h1.nk x hv c.symm
  · have := ln _ c
    omega
  · rw [snoc_list, List.length_append]
    exact World.ownsRow.kept hn g3 (.inr fun c => by have := lk' _ c; omega)
  · obtain ⟨a1, a2, a3, a4⟩ := hr x hx
    rw [kp x a1 (by omega) a4]
    exact hb.block x a2
  · obtain ⟨a1, a2, a3, a4⟩ := h1.rng x hx
    exact kp x a1 a2 a4
  · have g1 := g.size
    have g2 := g3.size
    have key : B ≤ x ∧ x < w1.heap.size ∧ vn.ownBlock ≠ some x ∧ vk.ownBlock ≠ some x := by
      rcases List.mem_append.1 hx with hx | hx
      · exact h1.rng x hx
      · obtain ⟨a1, a2, a3, a4⟩ := hr x hx
        exact ⟨a1, by omega, a3, a4⟩
    refine ⟨key.1, by omega, key.2.2.1, ?_⟩
    rcases hat with c | c
    · rw [c]; exact key.2.2.2
    · rw [c]; intro c; injection c with c; have := key.2.1; omega
  · intro c3
    rcases hat with c2 | c2
    · exact h1.nk x c (by rw [← c2]; exact c3)
    · rw [c2] at c3
      injection c3 with c3
      have := ln x c
      omega
/-- What is answered in the end. -/
theorem NJ.val (h : NJ B g6 g8 r w0 W k wr l e ns f vn vk cs Lf) : ∃ na nc ka kc Lp, vn = .slice na ns.length nc ∧ vk = .slice ka f.list.length kc ∧ VlL wr (nst k (f, ns)) na nc ka kc Lp ∧ ∀ x ∈ Lp, B ≤ x ∧ x < wr.heap.size := by
  obtain ⟨na, nc, Ln, e1, n1, n2, n3, _⟩ := nml_of h.nm
  have hk := h.kd
  have hk' := h.kd
  rcases hk with ⟨_, ⟨e2, h0⟩ | ⟨g, cap, cur, e2, hg, hh, hle, hm, _⟩⟩
  · have hf : f = .nil := by
      cases f with
      | nil => rfl
      | cons a b c => simp [Fo.list] at h0
    subst hf
    refine ⟨na, nc, none, 0, Ln, e1, by rw [e2]; rfl, ⟨Ln, [], by simp, n1, n2, ⟨Nat.le_refl _, fun _ => rfl, by decide⟩, .inl ⟨rfl, rfl⟩⟩, fun x hx => ?_⟩
    exact World.ownsRow.lt h.nm x (n3 x hx)
  · refine ⟨na, nc, some ⟨g, 0, none⟩, cap, Ln ++ (g :: Lf), e1, e2, ⟨Ln, g :: Lf, rfl, n1, n2, ⟨hle, fun c => (by cases c), hm⟩, .inr ⟨g, 0, cs, Lf, rfl, rfl, fun i => ?_, fun j u hj => ?_, h.lay⟩⟩, fun x hx => ?_⟩
    · rw [e2] at hk'
      exact World.ownsRow.frozenAt hk' i
    · have := World.ownsRow.cells hk' (g := g) (by rw [e2]; rfl) j u hj
      rw [Addr.add_lit] at this
      exact this
    · rcases List.mem_append.1 hx with hx | hx
      · exact World.ownsRow.lt h.nm x (n3 x hx)
      · rcases List.mem_cons.1 hx with rfl | hx
        · exact World.ownsRow.lt h.kd x (by rw [e2]; rfl)
        · have := h.rng x hx
          exact ⟨this.1, this.2.1⟩
end
/-- A value that was read. -/
structure Qo (f : Rdr Vt) (w0 : World) (r : Nat) (W w' : World) (l : List Nat) (err : Int) (p : Vt) (na : Option Addr) (nc : Nat) (ka : Option Addr) (kc : Nat) (l' : List Nat) (err' : Int) : Prop where
  ro : Ro2 w0 r W w' l' err'
  vl : ∃ Lp, VlL w' p na nc ka kc Lp ∧ ∀ x ∈ Lp, W.heap.size ≤ x ∧ x < w'.heap.size
  wf : WfV p
  sq : Sq f l err l' err' p
def QvC (d : Nat) (dp : Int) : Prop := ∀ (w0 W : World) (r : Nat) (l : List Nat) (err : Int), Rq w0 r W l err → w0.heap.size ≤ W.heap.size →
  Calls Try.prog 31 #[.pointer (some ⟨r, 0, none⟩), .int .i64 dp] W fun e w' => ∃ p na nc ka kc l' err', e = .returned (.agg #[.int .i64 p.1.k, .int .i64 p.1.n, .int .i64 p.1.s, .string p.1.t, .slice na p.1.ns.length nc, .slice ka p.2.list.length kc]) ∧ Hid (Qo (rdV d) w0 r W w' l err p na nc ka kc l' err')
end Go.Proofs.Ytimddoaejldgaaa
