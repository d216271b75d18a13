/-
  The document's own disk in memory: its block, its row of files, their bytes.
-/
import Derived.Test.YtmpnceicodfifaaGreatSrt
import Derived.Deep.QuietTactic
import Derived.BigQuiet
namespace Go.Proofs.YtmpnceicodfifaaGreat
open Go.RowKit Go.Maps
set_option linter.unusedVariables false
/-- A file of the document's own disk. -/
structure It where
  nm : Nm
  b : List Nat
  k : Nat
  v : Value
def It.fl (x : It) : Nm × Fl := (x.nm, ⟨x.b, x.k⟩)
def bsOf (nm : Nm) : ByteArray := ⟨nm.toArray⟩
theorem bsOf_toList (nm : Nm) : (bsOf nm).toList = nm := by rw [ByteArray.toList_eq]; rfl
def icell (x : It) : List Value := [.string (bsOf x.nm), x.v, .int .i64 (x.k : Int)]
def icells : List It → List Value
  | [] => []
  | x :: r => .string (bsOf x.nm) :: x.v :: .int .i64 (x.k : Int) :: icells r
theorem icells_length (its : List It) : (icells its).length = its.length * 3 := by
  induction its with
  | nil => rfl
  | cons x r ih => simp only [icells, List.length_cons, ih]; omega
theorem icells_app (l m : List It) : icells (l ++ m) = icells l ++ icells m := by
  induction l with
  | nil => rfl
  | cons x r ih => simp [icells, ih]
theorem icells_get : ∀ (its : List It) (i : Nat) (x : It), its[i]? = some x → (icells its)[i * 3]? = some (.string (bsOf x.nm)) ∧ (icells its)[i * 3 + 1]? = some x.v ∧ (icells its)[i * 3 + 2]? = some (.int .i64 (x.k : Int))
  | [], i, x, h => by simp at h
  | y :: r, 0, x, h => by
    have : y = x := by simpa using h
    subst this
    exact ⟨rfl, rfl, rfl⟩
  | y :: r, i + 1, x, h => by
    have := icells_get r i x (by simpa using h)
    have e : ∀ j, (icells (y :: r))[(i + 1) * 3 + j]? = (icells r)[i * 3 + j]? := fun j => by
      have : (i + 1) * 3 + j = i * 3 + j + 1 + 1 + 1 := by omega
      rw [this]; rfl
    exact ⟨(e 0).trans this.1, (e 1).trans this.2.1, (e 2).trans this.2.2⟩
theorem icells_set : ∀ (its : List It) (i : Nat) (x : It), its[i]? = some x → (∀ v, (icells its).set (i * 3 + 1) v = icells (its.set i ⟨x.nm, x.b, x.k, v⟩)) ∧ (∀ k : Nat, (icells its).set (i * 3 + 2) (.int .i64 (k : Int)) = icells (its.set i ⟨x.nm, x.b, k, x.v⟩))
  | [], i, x, h => by simp at h
  | y :: r, 0, x, h => by
    have : y = x := by simpa using h
    subst this
    exact ⟨fun _ => rfl, fun _ => rfl⟩
  | y :: r, i + 1, x, h => by
    have := icells_set r i x (by simpa using h)
    have e : ∀ j u, (icells (y :: r)).set ((i + 1) * 3 + j) u = .string (bsOf y.nm) :: y.v :: .int .i64 (y.k : Int) :: (icells r).set (i * 3 + j) u := fun j u => by
      have : (i + 1) * 3 + j = i * 3 + j + 1 + 1 + 1 := by omega
      rw [this]; rfl
    exact ⟨fun v => by rw [e, this.1 v]; rfl, fun k => by rw [e, this.2 k]; rfl⟩
/-- The bytes of a file do not stand in its cells: they may be told otherwise. -/
theorem icells_b (its : List It) (i : Nat) (x : It) (h : its[i]? = some x) (b : List Nat) : icells (its.set i ⟨x.nm, b, x.k, x.v⟩) = icells its := by
  induction its generalizing i with
  | nil => rfl
  | cons y r ih =>
    cases i with
    | zero =>
      have : y = x := by simpa using h
      subst this; rfl
    | succ i =>
      have := ih i (by simpa using h)
      simp only [List.set_cons_succ, icells, this]
def OwnF (w : World) (base : Nat) (v : Value) (its : List It) : Prop := w.ownsRow base 57 3 v its.length (icells its)
/-- A slice's address, and its files. -/
def FSrc (w : World) (a : Option Addr) (its : List It) : Prop := its = [] ∨ ∃ b off, a = some ⟨b, off, none⟩ ∧ ∀ j u, (icells its)[j]? = some u → w.cell? ⟨b, off + j, none⟩ = some u
theorem OwnF.shape {w : World} {base : Nat} {v : Value} {its : List It} (h : OwnF w base v its) :
    ∃ a c, v = .slice a its.length c ∧ its.length ≤ c ∧ c ≤ maxLen ∧ (a = none → c = 0) ∧ FSrc w a its ∧ (∀ x, a = some x → x.off = 0 ∧ x.spot = none ∧ v.ownBlock = some x.block) := by
  have h' := h
  rcases h with ⟨h1, ⟨rfl, h0⟩ | ⟨g, cap, cur, rfl, hg, hh, hle, hm, h5, h6⟩⟩
  · have e : its = [] := List.eq_nil_of_length_eq_zero h0
    subst e
    exact ⟨none, 0, rfl, Nat.le_refl _, by unfold maxLen; omega, fun _ => rfl, .inl rfl, fun x hx => by cases hx⟩
  · refine ⟨_, cap, rfl, hle, hm, (fun e => by cases e), .inr ⟨g, 0, rfl, fun j u hj => ?_⟩, fun x hx => by cases hx; exact ⟨rfl, rfl, rfl⟩⟩
    have hlt := (List.getElem?_eq_some_iff.1 hj).1
    rw [Nat.zero_add, World.ownsRow.cellAt h' j (by rw [← h1]; exact hlt)]
    exact hj
/-- The document's own disk. -/
def Ref (w : World) (br : Nat) (R : Nat → Prop) (a : Ab) : Prop :=
  ∃ (vL : Value) (its : List It), Blk w br 52 [.int .i64 a.room, vL, .int .i64 a.fuse] ∧ OwnF w 0 vL its ∧ (∀ x ∈ its, Own w 0 x.v x.b) ∧ a.fs = its.map It.fl ∧ R = fun i => i = br ∨ vL.ownBlock = some i ∨ ∃ x ∈ its, x.v.ownBlock = some i
theorem OwnF.keptBy {S : Nat → Prop} {w w' : World} {base : Nat} {v : Value} {its : List It} (h : OwnF w base v its) (hk : Kept S w w') (hn : ∀ g, v.ownBlock = some g → ¬ S g) : OwnF w' base v its := by
  rcases h with ⟨h0, ⟨rfl, h1⟩ | ⟨g', cap, cur, rfl, h2, hh, h3⟩⟩
  · exact ⟨h0, .inl ⟨rfl, h1⟩⟩
  · refine ⟨h0, .inr ⟨g', cap, cur, rfl, h2, ?_, h3⟩⟩
    rw [hk.block g' (Array.getElem?_eq_some_iff.1 hh).1 (hn g' rfl)]
    exact hh
theorem Ref.keptBy {w w' : World} {br : Nat} {R T : Nat → Prop} {a : Ab} (h : Ref w br R a) (hk : Kept T w w') (hn : ∀ i, R i → ¬ T i) : Ref w' br R a := by
  obtain ⟨vL, its, h1, h2, h3, h4, rfl⟩ := h
  exact ⟨vL, its, h1.keptBy hk (hn _ (.inl rfl)), h2.keptBy hk (fun g hg => hn _ (.inr (.inl hg))), fun x hx => (h3 x hx).keptBy hk (fun g hg => hn _ (.inr (.inr ⟨x, hx, hg⟩))), h4, rfl⟩
theorem own_lt {w : World} {base : Nat} {v : Value} {l : List Nat} (h : Own w base v l) {g : Nat} (hg : v.ownBlock = some g) : base ≤ g ∧ g < w.heap.size := World.ownsRow.lt h g hg
theorem OwnF.lt {w : World} {base : Nat} {v : Value} {l : List It} (h : OwnF w base v l) {g : Nat} (hg : v.ownBlock = some g) : base ≤ g ∧ g < w.heap.size := World.ownsRow.lt h g hg
theorem Ref.lt {w : World} {br : Nat} {R : Nat → Prop} {a : Ab} (h : Ref w br R a) {i : Nat} (hi : R i) : i < w.heap.size := by
  obtain ⟨vL, its, h1, h2, h3, h4, rfl⟩ := h
  rcases hi with rfl | hi | ⟨x, hx, hi⟩
  · exact h1.lt
  · exact (h2.lt hi).2
  · exact (own_lt (h3 x hx) hi).2
theorem OwnF.blk {w : World} {base : Nat} {v : Value} {l : List It} (h : OwnF w base v l) {g : Nat} (hg : v.ownBlock = some g) : ∃ vs, Blk w g 57 vs := by
  rcases h with ⟨_, ⟨rfl, _⟩ | ⟨g', cap, cur, rfl, _, hh, _⟩⟩
  · cases hg
  · cases hg
    exact ⟨cur.toList, by unfold Blk; simpa using hh⟩
/-- What the walks read of the document's own disk. -/
structure Seen (w : World) (br : Nat) (a : Ab) (its : List It) (aL : Option Addr) (cL : Nat) : Prop where
  c0 : w.cell? ⟨br, 0, none⟩ = some (.int .i64 a.room)
  c1 : w.cell? ⟨br, 1, none⟩ = some (.slice aL its.length cL)
  c2 : w.cell? ⟨br, 2, none⟩ = some (.int .i64 a.fuse)
  le : its.length ≤ cL
  max : cL ≤ maxLen
  nil : aL = none → cL = 0
  src : FSrc w aL its
  fs : a.fs = its.map It.fl
  row : ∀ x ∈ its, Own w 0 x.v x.b
theorem Ref.seen {w : World} {br : Nat} {R : Nat → Prop} {a : Ab} (h : Ref w br R a) : ∃ its aL cL, Seen w br a its aL cL := by
  obtain ⟨vL, its, h1, h2, h3, h4, rfl⟩ := h
  obtain ⟨aL, cL, rfl, h5, h6, h7, h8, _⟩ := h2.shape
  exact ⟨its, aL, cL, h1.cell 0, h1.cell 1, h1.cell 2, h5, h6, h7, h8, h4, h3⟩
theorem Seen.file {w : World} {br : Nat} {a : Ab} {its : List It} {aL : Option Addr} {cL : Nat} (h : Seen w br a its aL cL) {i : Nat} (hi : i < its.length) :
    ∃ b off x, aL = some ⟨b, off, none⟩ ∧ its[i]? = some x ∧ a.fs[i]? = some (x.nm, ⟨x.b, x.k⟩) ∧ w.cell? ⟨b, off + i * 3, none⟩ = some (.string (bsOf x.nm)) ∧ w.cell? ⟨b, off + i * 3 + 1, none⟩ = some x.v ∧ w.cell? ⟨b, off + i * 3 + 2, none⟩ = some (.int .i64 (x.k : Int)) ∧ Own w 0 x.v x.b := by
  rcases h.src with e | ⟨b, off, rfl, hc⟩
  · rw [e] at hi; simp at hi
  · have hx := List.getElem?_eq_getElem hi
    obtain ⟨g0, g1, g2⟩ := icells_get its i its[i] hx
    exact ⟨b, off, its[i], rfl, hx, by rw [h.fs, List.getElem?_map, hx]; rfl, hc _ _ g0, by have := hc _ _ g1; rwa [← Nat.add_assoc] at this, by have := hc _ _ g2; rwa [← Nat.add_assoc] at this, h.row _ (List.getElem_mem hi)⟩
theorem ret_ib {x y : Int} {b c : Bool} (h1 : x = y) (h2 : b = c) : Ending.returned (.tuple #[.int .i64 x, .bool b]) = .returned (.tuple #[.int .i64 y, .bool c]) := by rw [h1, h2]
theorem less_eq (a b : Nm) : Op.bytesLess a b = bytesBefore a b := by
  induction a generalizing b with
  | nil => cases b <;> rfl
  | cons x r ih => cases b with
    | nil => rfl
    | cons y s => simp only [Op.bytesLess, bytesBefore, ih]
set_option maxHeartbeats 1000000 in
theorem spot_any {w : World} {br : Nat} {a : Ab} {its : List It} {aL : Option Addr} {cL : Nat} (h : Seen w br a its aL cL) (s : ByteArray) (hr : Ris a.fs) (hn : its.length ≤ 4096) :
    Calls Tryz.prog 61 #[.pointer (some ⟨br, 0, none⟩), .string s] w fun e w' => e = .returned (.tuple #[.int .i64 (idx s.data.toList a.fs : Nat), .bool (get a.fs s.data.toList).isSome]) ∧ ∃ q, w' = w.drewN q := by
  have c1 := h.c1
  have hfl : a.fs.length = its.length := by rw [h.fs]; simp
  have hil := idx_le s.data.toList a.fs
  have hs : s.toList = s.data.toList := ByteArray.toList_eq s
  go_enter Tryz.func61, Tryz.ntmps61
  go_wp2
  go_loopw [6] (fun i wr => ∃ k : Nat, k ≤ idx s.data.toList a.fs ∧ i = .int .i64 k ∧ wr = w) (fun i _ => its.length - (intOf i).toNat)
  case atStart => exact ⟨0, by omega, rfl, rfl⟩
  case round =>
    obtain ⟨k, hk, rfl, rfl⟩ := hrel
    by_cases hlt : k < its.length
    · obtain ⟨b, off, x, rfl, hx, hfx, f0, _, _, _⟩ := h.file hlt
      by_cases hb : bytesBefore x.nm s.data.toList = true
      · have hk2 : k < idx s.data.toList a.fs := by
          rcases Nat.lt_or_ge k (idx s.data.toList a.fs) with e | e
          · exact e
          · have e2 : k = idx s.data.toList a.fs := by omega
            have := idx_at s.data.toList a.fs _ (by rw [← e2]; exact hfx)
            simp only at this
            rw [hb] at this; cases this
        have hless : Op.bytesLess (bsOf x.nm).toList s.toList = true := by rw [bsOf_toList, hs, less_eq]; exact hb
        have HK : Hid (k < idx s.data.toList a.fs) := hk2
        clear h hr hfx hx hb hk2 hil hfl hs hk
        go_wp2
        go_roundw
        case rel => exact ⟨k + 1, HK.out, by go_num, by first | rfl | trivial⟩
        case measure => simp [intOf]; omega
      · have hke : k = idx s.data.toList a.fs := by
          rcases Nat.lt_or_ge k (idx s.data.toList a.fs) with e | e
          · exact (hb (idx_before _ _ _ _ e hfx)).elim
          · omega
        have hless : Op.bytesLess (bsOf x.nm).toList s.toList = false := by rw [bsOf_toList, hs, less_eq]; simpa using hb
        obtain ⟨bb, heq, hbb⟩ : ∃ bb, ((bsOf x.nm).toList == s.toList) = bb ∧ Hid (bb = (get a.fs s.data.toList).isSome) := by
          refine ⟨_, rfl, ?_⟩
          show _ = _
          rw [get_spot hr, ← hke, hfx, bsOf_toList, hs]
          simp only
          by_cases e : x.nm = s.data.toList
          · simp [e]
          · rw [if_neg e]; simp [e]
        have HK : Hid (k = idx s.data.toList a.fs) := hke
        have hdec : decide ((k : Int) < (its.length : Int)) = true := by simpa using hlt
        clear h hr hfx hx hb hke hil hfl hs hk
        go_wp2
        go_quiet (fail)
        go_wp2
        go_ret2
        exact ⟨ret_ib (by rw [HK.out]) hbb.out, _, rfl⟩
    · have hke : k = idx s.data.toList a.fs := by omega
      have hg : (get a.fs s.data.toList).isSome = false := by
        rw [get_spot hr, ← hke, List.getElem?_eq_none (by omega)]; rfl
      have HK : Hid (k = idx s.data.toList a.fs ∧ (get a.fs s.data.toList).isSome = false) := ⟨hke, hg⟩
      have hdec : decide ((k : Int) < (its.length : Int)) = false := by simp; omega
      clear h hr hke hil hfl hs hk hg
      go_wp2
      go_quiet (fail)
      go_wp2
      go_ret2
      exact ⟨ret_ib (by rw [HK.out.1]) HK.out.2.symm, _, rfl⟩
end Go.Proofs.YtmpnceicodfifaaGreat
