/-
  Append onto a slice of files that the call made.
-/
import Derived.Test.YtmpnceicodfifaaGreatRft
namespace Go.Proofs.YtmpnceicodfifaaGreat
open Go.RowKit Go.Maps
set_option linter.unusedVariables false
theorem Tryz.info57 : (Tryz.prog.info? 57).map (fun i => (i.zero, i.size, i.bytes)) = some (some (.agg #[.string ByteArray.empty, .slice none 0 0, .int .i64 0]), 3, 48) := by kernel_rfl
def Slc (its : List It) : Prop := ∀ x ∈ its, ∃ p n c, x.v = .slice p n c
theorem icells_one {its : List It} (h : Slc its) : ∀ u ∈ icells its, u.oneCell' = true := by
  induction its with
  | nil => intro u hu; cases hu
  | cons x r ih =>
    intro u hu
    obtain ⟨p, n, c, e⟩ := h x (by simp)
    simp only [icells, List.mem_cons] at hu
    rcases hu with rfl | rfl | rfl | hu
    · rfl
    · rw [e]; rfl
    · rfl
    · exact ih (fun y hy => h y (by simp [hy])) u hu
theorem run_appf (w : World) (ty : TypeId) (base : Nat) (v : Value) (its : List It) (hown : OwnF w base v its) (ax : Option Addr) (m c : Nat) (its2 : List It) (hm : m = its2.length) (hsrc : FSrc w ax its2) (hnil : ax = none → c = 0) (hsl : Slc its2) (hb : its.length + its2.length ≤ 100000) (hbase : base ≤ w.heap.size) :
    ∃ v' w', (Builtin.append_ #[50, 50] ty #[v, .slice ax m c]).run Tryz.prog w = .ok v' w' ∧ OwnF w' base v' (its ++ its2) ∧ w.grownBy w' v.ownBlock ∧ (∀ g, v'.ownBlock = some g → v.ownBlock = some g ∨ w.heap.size ≤ g) := by
  subst hm
  obtain ⟨i, hi, hz0, hz1, hz2⟩ := info_parts Tryz.info57
  cases ax with
  | none =>
    obtain rfl := hnil rfl
    have hl : its2 = [] := by
      rcases hsrc with h | ⟨_, _, h, _⟩
      · exact h
      · cases h
    subst hl
    exact ⟨v, w, run_append_owned_none (P := Tryz.prog) (w := w) base 50 ty 57 i 3 Tryz.underlying50 hi v _ _ hown, by simpa using hown, World.grownBy.refl _ _, fun _ h => .inl h⟩
  | some ad =>
    obtain ⟨v', w', r1, r2, r3, _, r5⟩ := run_append_own_at (P := Tryz.prog) w base 50 ty 57 i _ 3 48 Tryz.underlying50 hi hz0 hz1 hz2 rfl (by decide) v _ _ hown ad its2.length c (icells its2) (icells_length _) (by
      intro j u hj
      rcases hsrc with rfl | ⟨b, off, he, hc⟩
      · simp [icells] at hj
      · obtain rfl := Option.some.inj he
        rw [Addr.add_lit]
        exact hc j u hj) (icells_one hsl) (by unfold maxLen; omega) (by omega) hbase
    refine ⟨v', w', r1, ?_, r3, fun g hg => ?_⟩
    · unfold OwnF
      rw [List.length_append, icells_app]
      exact r2
    · rcases r5 with h4 | h4
      · left; rw [← h4]; exact hg
      · right; rw [h4] at hg; cases hg; exact Nat.le_refl _
theorem app_files {ops : Array Oper} {rest : List Oper} {o : Oper} {a : Act} {Q : Exit → Act → World → Prop} {w : World} (hgd : o.guard = none) (s x : Operand)
    (ho : o.op = .call { callee := .builtin .append, args := #[s, x], argTypes := #[50, 50] })
    (base : Nat) (v : Value) (its : List It) (hs : a.eval s = v) (hown : OwnF w base v its) (ax : Option Addr) (m c : Nat) (its2 : List It) (hm : m = its2.length) (hx : a.eval x = .slice ax m c) (hsrc : FSrc w ax its2) (hnil : ax = none → c = 0) (hsl : Slc its2)
    (hb : its.length + its2.length ≤ 100000) (hbase : base ≤ w.heap.size)
    (h : ∀ v' w', OwnF w' base v' (its ++ its2) → w.grownBy w' v.ownBlock → (∀ g, v'.ownBlock = some g → v.ownBlock = some g ∨ w.heap.size ≤ g) → wpList Tryz.prog ops Q rest (a.put o.dst v') w') : wpList Tryz.prog ops Q (o :: rest) a w := by
  refine wpList_plain hgd fun K hK => ?_
  obtain ⟨v', w', h1, h2, h3, h4⟩ := run_appf w o.type base v its hown ax m c its2 hm hsrc hnil hsl hb hbase
  unfold Oper.wp execOp
  simp only [ho, resolve, invoke, builtin, Sem.run_bind, Sem.run_pure, Result.andThen_ok, List.map_toArray, List.map_cons, List.map_nil, hs, hx, h1]
  exact hK _ _ (h v' w' h2 h3 h4)
theorem oper_appf {o : Oper} {a : Act} {w : World} {K : Act → World → Prop} {Q : Exit → Act → World → Prop} (s x : Operand)
    (ho : o.op = .call { callee := .builtin .append, args := #[s, x], argTypes := #[50, 50] })
    (base : Nat) (v : Value) (its : List It) (hs : a.eval s = v) (hown : OwnF w base v its) (ax : Option Addr) (m c : Nat) (its2 : List It) (hm : m = its2.length) (hx : a.eval x = .slice ax m c) (hsrc : FSrc w ax its2) (hnil : ax = none → c = 0) (hsl : Slc its2)
    (hb : its.length + its2.length ≤ 100000) (hbase : base ≤ w.heap.size)
    (h : ∀ v' w', OwnF w' base v' (its ++ its2) → w.grownBy w' v.ownBlock → (∀ g, v'.ownBlock = some g → v.ownBlock = some g ∨ w.heap.size ≤ g) → K (a.put o.dst v') w') : Oper.wp Tryz.prog o a w K Q := by
  obtain ⟨v', w', h1, h2, h3, h4⟩ := run_appf w o.type base v its hown ax m c its2 hm hsrc hnil hsl hb hbase
  unfold Oper.wp execOp
  simp only [ho, resolve, invoke, builtin, Sem.run_bind, Sem.run_pure, Result.andThen_ok, List.map_toArray, List.map_cons, List.map_nil, hs, hx, h1]
  exact h v' w' h2 h3 h4
theorem ownF_empty (w : World) (base : Nat) (hb : base ≤ w.heap.size) : OwnF (w.alloc (.cells #[] 57)) base (.slice (some ⟨w.heap.size, 0, none⟩) 0 0) [] :=
  World.ownsRow_lit w #[] 0 hb (by decide) rfl
theorem OwnF.below {w w' : World} {base : Nat} {v : Value} {its : List It} (h : OwnF w base v its) (hb : Below w.heap.size w w') : OwnF w' base v its := h.keptBy (Kept.of_below (S := fun _ => False) hb) (fun _ _ h => h)
theorem FSrc.below {w w' : World} {a : Option Addr} {its : List It} (h : FSrc w a its) (hb : Below w.heap.size w w') : FSrc w' a its := by
  rcases h with h | ⟨b, off, e, hc⟩
  · exact .inl h
  · exact .inr ⟨b, off, e, fun j u hj => (hb.cell (p := ⟨b, off + j, none⟩) (cell_lt (hc j u hj))).trans (hc j u hj)⟩
theorem FSrc.take {w : World} {a : Option Addr} {its : List It} (h : FSrc w a its) (n : Nat) : FSrc w a (its.take n) := by
  rcases h with rfl | ⟨b, off, e, hc⟩
  · left; simp
  · refine .inr ⟨b, off, e, fun j u hj => hc j u ?_⟩
    have : icells its = icells (its.take n) ++ icells (its.drop n) := by rw [← icells_app, List.take_append_drop]
    rw [this, List.getElem?_append_left (List.getElem?_eq_some_iff.1 hj).1]
    exact hj
theorem FSrc.drop {w : World} {b off : Nat} {its : List It} (h : FSrc w (some ⟨b, off, none⟩) its) (n : Nat) (hn : n ≤ its.length) : FSrc w (some ⟨b, off + n * 3, none⟩) (its.drop n) := by
  rcases h with rfl | ⟨b', off', e, hc⟩
  · left; simp
  · injection e with e
    injection e with e1 e2
    subst e1 e2
    refine .inr ⟨b, _, rfl, fun j u hj => ?_⟩
    have h1 : icells its = icells (its.take n) ++ icells (its.drop n) := by rw [← icells_app, List.take_append_drop]
    have h2 : (icells (its.take n)).length = n * 3 := by rw [icells_length, List.length_take]; omega
    rw [Nat.add_assoc]
    refine hc _ u ?_
    rw [h1, List.getElem?_append_right (by omega), h2, Nat.add_sub_cancel_left]
    exact hj
theorem RI.slc {w : World} {br : Nat} {room fuse : Int} {vL : Value} {its : List It} (h : RI w br room fuse vL its) : Slc its := fun x hx => by
  obtain ⟨p, c, e, _⟩ := (h.row x hx).shape
  exact ⟨p, _, c, e⟩
theorem Slc.take {its : List It} (h : Slc its) (n : Nat) : Slc (its.take n) := fun x hx => h x (List.mem_of_mem_take hx)
theorem Slc.drop {its : List It} (h : Slc its) (n : Nat) : Slc (its.drop n) := fun x hx => h x (List.mem_of_mem_drop hx)
theorem below_appf {B : Nat} {w0 w w' : World} {v : Value} {l : List It} (hb : Below B w0 w) (hB : B ≤ w.heap.size) (h : OwnF w B v l) (hg : w.grownBy w' v.ownBlock) : Below B w0 w' :=
  hb.grown hg hB fun k hk => (World.ownsRow.lt h k hk).1
theorem ownF_mono0 {w : World} {base : Nat} {v : Value} {l : List It} (h : OwnF w base v l) : OwnF w 0 v l := by
  rcases h with ⟨h1, ⟨rfl, h0⟩ | ⟨g, cap, cur, rfl, hg, hh, hle, hm, h5⟩⟩
  · exact ⟨h1, .inl ⟨rfl, h0⟩⟩
  · exact ⟨h1, .inr ⟨g, cap, cur, rfl, Nat.zero_le _, hh, hle, hm, h5⟩⟩
theorem run_from {P : Program} (T elem : TypeId) (hu : P.underlying T = some (.slice elem)) (sz : Nat) (hsz : ∀ w, (Go.sizeOf elem).run P w = .ok sz w) (A : Option Addr) (len cap n : Nat) (hn : n ≤ len) (w : World) :
    (Instr.sliceAt T (.slice A len cap) (some (.int .i64 (n : Int))) none none).run P w = .ok (.slice (if cap = n then A else A.map fun p => p.add (n * sz)) (len - n) (cap - n)) w := by
  have h0 : (0 : Int) ≤ (n : Int) ∧ (n : Int) ≤ (len : Int) := ⟨by omega, by omega⟩
  simp [Instr.sliceAt, Instr.slice, Instr.sliceBounds, Instr.sliceBound, asIntOf, run_underlying hu, h0, hsz]
  intro h
  omega
/-- The slice of files from the n-th on. -/
theorem from_src {w : World} {aL : Option Addr} {its : List It} (h : FSrc w aL its) {cL n : Nat} (hle : its.length ≤ cL) (hn : n ≤ its.length) : FSrc w (if cL = n then aL else aL.map fun p => p.add (n * 3)) (its.drop n) := by
  by_cases e : n = its.length
  · left; rw [e]; simp
  · rw [if_neg (by omega)]
    rcases h with rfl | ⟨b, off, rfl, hc⟩
    · rw [List.length_nil] at e hn; omega
    · have := FSrc.drop (.inr ⟨b, off, rfl, hc⟩) n hn
      rw [Option.map_some, Addr.add_mid]
      exact this
theorem from_nil {aL : Option Addr} {cL n : Nat} (h : aL = none → cL = 0) : (if cL = n then aL else aL.map fun p => p.add (n * 3)) = none → cL - n = 0 := by
  intro e
  split at e
  · omega
  · cases aL with
    | none => have := h rfl; omega
    | some p => cases e
/-- The document's own disk has another row of files. -/
theorem RI.newRow {w w' : World} {br : Nat} {room fuse : Int} {vL v3 : Value} {its its' : List It} (h : RI w br room fuse vL its) (hb : Below w.heap.size w w') (ho : OwnF w' w.heap.size v3 its') (hr : ∀ x ∈ its', (∃ y ∈ its, y.v = x.v ∧ y.b = x.b) ∨ (x.v = .slice none 0 0 ∧ x.b = [])) :
    RI (w'.setCell ⟨br, 1, none⟩ v3) br room fuse v3 its' ∧ Went w (w'.setCell ⟨br, 1, none⟩ v3) (rfoot br vL its) (rfoot br v3 its') := by
  have hk : Kept (fun i => i = br) w' (w'.setCell ⟨br, 1, none⟩ v3) := Kept.setCell (S := fun i => i = br) w' ⟨br, 1, none⟩ _ rfl
  have h' := h.below hb
  have hrow : ∀ x ∈ its', Own w' 0 x.v x.b := fun x hx => by
    rcases hr x hx with ⟨y, hy, e1, e2⟩ | ⟨e1, e2⟩
    · rw [← e1, ← e2]; exact h'.row y hy
    · rw [e1, e2]; exact ⟨by simp [vals], .inl ⟨rfl, rfl⟩⟩
  refine ⟨⟨h'.blk.set 1 v3, (ownF_mono0 ho).keptBy hk (fun g hg e => ?_), fun x hx => (hrow x hx).keptBy hk (fun g hg e => ?_)⟩, ?_, fun j hj => ?_⟩
  · obtain ⟨_, hv⟩ := ho.blk hg
    exact hv.ne h'.blk (by decide) e
  · obtain ⟨_, hv⟩ := (hrow x hx).blk hg
    exact hv.ne h'.blk (by decide) e
  · exact ((Kept.of_below (S := fun i => i = br) hb).trans hk (fun _ _ e => e)).mono fun j _ e => .inl e
  · rcases hj with e | e | ⟨x, hx, e⟩
    · exact .inl (.inl e)
    · exact .inr (ho.lt e).1
    · rcases hr x hx with ⟨y, hy, e1, e2⟩ | ⟨e1, e2⟩
      · left; exact .inr (.inr ⟨y, hy, by rw [e1]; exact e⟩)
      · rw [e1] at e; cases e
theorem bsOf_self (s : ByteArray) : bsOf s.data.toList = s := by
  unfold bsOf
  rfl
theorem src_one (w : World) (x : It) : FSrc (w.alloc (.cells #[.string (bsOf x.nm), x.v, .int .i64 (x.k : Int)] 57)) (some ⟨w.heap.size, 0, none⟩) [x] := by
  refine .inr ⟨_, _, rfl, fun j u hj => ?_⟩
  rw [Nat.zero_add, World.cell?_alloc_new]
  match j, hj with
  | 0, hj => exact hj
  | 1, hj => exact hj
  | 2, hj => exact hj
  | j + 3, hj => simp [icells] at hj
theorem byt_ne_br {w : World} {b off br : Nat} {l : List Nat} {room fuse : Int} {p : Option Addr} {n c : Nat} (hc : Cells w b off l) (hl : l ≠ []) (hb : Blk w br 52 [.int .i64 room, .slice p n c, .int .i64 fuse]) : b ≠ br := by
  rintro rfl
  have h0 := hc 0 (List.length_pos_iff.2 hl)
  rw [Nat.add_zero, hb.cell] at h0
  match off, h0 with
  | 0, h0 => simp at h0
  | 1, h0 => simp at h0
  | 2, h0 => simp at h0
  | o + 3, h0 => simp at h0
theorem Byt.setBr {w : World} {br : Nat} {a : Option Addr} {l : List Nat} {room fuse : Int} {p : Option Addr} {n c : Nat} (h : Byt w a l) (hb : Blk w br 52 [.int .i64 room, .slice p n c, .int .i64 fuse]) (j : Nat) (v : Value) : Byt (w.setCell ⟨br, j, none⟩ v) a l := by
  by_cases hl : l = []
  · exact .inl hl
  · refine h.keptBy (Kept.setCell (S := fun i => i = br) w ⟨br, j, none⟩ v rfl) (fun b off e _ e2 => ?_)
    rcases h with h | ⟨b', off', e', hc⟩
    · exact hl h
    · rw [e] at e'
      injection e' with e'
      injection e' with e1 e3
      subst e1 e3
      exact byt_ne_br hc hl hb e2
theorem sl_to {ops : Array Oper} {rest : List Oper} {o : Oper} {a : Act} {w : World} {Q : Exit → Act → World → Prop} (hg : o.guard = none) (T : TypeId) (x y : Operand) (ho : o.op = .slice T x none (some y) none) (elem : TypeId) (hu : Tryz.prog.underlying T = some (.slice elem)) (sz : Nat) (hsz : ∀ w, (Go.sizeOf elem).run Tryz.prog w = .ok sz w)
    (A : Option Addr) (len cap n : Nat) (hx : a.eval x = .slice A len cap) (hy : a.eval y = .int .i64 (n : Int)) (hn : n ≤ cap)
    (h : wpList Tryz.prog ops Q rest (a.put o.dst (.slice A n cap)) w) : wpList Tryz.prog ops Q (o :: rest) a w := by
  refine wpList_plain hg fun K hK => ?_
  unfold Oper.wp execOp
  simp only [ho, hx, hy, Option.map_some, Option.map_none, run_to T elem hu sz hsz A len cap n hn w, Sem.run_bind, Result.andThen_ok]
  exact hK _ _ h
theorem sl_fromf {ops : Array Oper} {rest : List Oper} {o : Oper} {a : Act} {w : World} {Q : Exit → Act → World → Prop} (hg : o.guard = none) (T : TypeId) (x y : Operand) (ho : o.op = .slice T x (some y) none none) (elem : TypeId) (hu : Tryz.prog.underlying T = some (.slice elem)) (sz : Nat) (hsz : ∀ w, (Go.sizeOf elem).run Tryz.prog w = .ok sz w)
    (A : Option Addr) (len cap n : Nat) (hx : a.eval x = .slice A len cap) (hy : a.eval y = .int .i64 (n : Int)) (hn : n ≤ len)
    (h : ∀ A', A' = (if cap = n then A else A.map fun p => p.add (n * sz)) → wpList Tryz.prog ops Q rest (a.put o.dst (.slice A' (len - n) (cap - n))) w) : wpList Tryz.prog ops Q (o :: rest) a w := by
  refine wpList_plain hg fun K hK => ?_
  unfold Oper.wp execOp
  simp only [ho, hx, hy, Option.map_some, Option.map_none, run_from T elem hu sz hsz A len cap n hn w, Sem.run_bind, Result.andThen_ok]
  exact hK _ _ (h _ rfl)
end Go.Proofs.YtmpnceicodfifaaGreat
