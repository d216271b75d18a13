/-
  A catalog as data, and in memory.
-/
import Derived.Test.YtbkogaencjmmgaaCa
namespace Go.Proofs.Ytbkogaencjmmgaa
open Go.RowKit Go.MapKept
set_option linter.unusedVariables false
set_option linter.unusedSimpArgs false
/-- A table: its name, its indexes' fields, whether it is dropped. -/
structure Tb where
  name : ByteArray
  fs : List ByteArray
  gone : Bool
/-- Two texts are one. -/
def bq (a b : ByteArray) : Bool := a.toList == b.toList
theorem bq_iff {a b : ByteArray} : bq a b = true ↔ a = b := by
  unfold bq
  rw [beq_iff_eq, ByteArray.toList_eq, ByteArray.toList_eq]
  constructor
  · intro h
    exact ByteArray.ext (Array.ext' h)
  · rintro rfl; rfl
/-- There is a table of that number. -/
def thereB (A : List Tb) (id : Int) : Bool := decide (1 ≤ id) && decide (id ≤ (A.length : Int))
def tbl (A : List Tb) (id : Int) : Option Tb := if 1 ≤ id then A[(id - 1).toNat]? else none
def goneB (A : List Tb) (id : Int) : Bool := match tbl A id with
  | some t => t.gone
  | none => false
def liveB (A : List Tb) (id : Int) : Bool := thereB A id && !goneB A id
def hasB (A : List Tb) (id : Int) (s : ByteArray) : Bool := match tbl A id with
  | some t => t.fs.any (fun x => bq x s)
  | none => false
def nameB (s : ByteArray) : Bool := decide (s.size ≠ 0) && decide (s.size ≤ 40)
/-- The number of the first table of that name that is not dropped; i: how many are ahead. -/
def namF (s : ByteArray) : Nat → List Tb → Nat
  | _, [] => 0
  | i, t :: r => if (bq t.name s && !t.gone) = true then i + 1 else namF s (i + 1) r
def nam (A : List Tb) (s : ByteArray) : Nat := namF s 0 A
def addE (A : List Tb) (id : Int) (s : ByteArray) : Int := if 64 ≤ A.length then 17 else if (decide (id ≠ (A.length : Int) + 1) || !nameB s) = true then 3 else if nam A s ≠ 0 then 8 else 0
def addA (A : List Tb) (id : Int) (s : ByteArray) : List Tb := if addE A id s = 0 then A ++ [⟨s, [], false⟩] else A
def dropE (A : List Tb) (id : Int) : Int := if liveB A id = true then 0 else 7
def updA (A : List Tb) (id : Int) (f : Tb → Tb) : List Tb := if 1 ≤ id then A.modify (id - 1).toNat f else A
def dropA (A : List Tb) (id : Int) : List Tb := if liveB A id = true then updA A id (fun t => ⟨t.name, [], true⟩) else A
def fieldsN (A : List Tb) (id : Int) : Nat := match tbl A id with
  | some t => t.fs.length
  | none => 0
def idxE (A : List Tb) (id : Int) (s : ByteArray) : Int := if liveB A id = false then 7 else if nameB s = false then 3 else if hasB A id s = true then 8 else if 16 ≤ fieldsN A id then 17 else 0
def idxA (A : List Tb) (id : Int) (s : ByteArray) : List Tb := if idxE A id s = 0 then updA A id (fun t => ⟨t.name, t.fs ++ [s], t.gone⟩) else A
def apE (A : List Tb) (k id : Int) (s : ByteArray) : Int := if k = 5 then addE A id s else if k = 6 then dropE A id else if k = 7 then idxE A id s else 0
def apA (A : List Tb) (k id : Int) (s : ByteArray) : List Tb := if k = 5 then addA A id s else if k = 6 then dropA A id else if k = 7 then idxA A id s else A
/-- What is always so. -/
structure OkT (t : Tb) : Prop where
  name : t.name.size ≤ 40
  fs : ∀ s ∈ t.fs, s.size ≤ 40
  len : t.fs.length ≤ 16
  gone : t.gone = true → t.fs = []
structure OkA (A : List Tb) : Prop where
  len : A.length ≤ 64
  ok : ∀ t ∈ A, OkT t
theorem tbl_some {A : List Tb} {id : Int} (h : thereB A id = true) : ∃ X t Y, A = X ++ t :: Y ∧ (X.length : Int) = id - 1 := by
  simp only [thereB, Bool.and_eq_true, decide_eq_true_eq] at h
  have hl : (id - 1).toNat < A.length := by omega
  refine ⟨A.take (id - 1).toNat, A[(id - 1).toNat], A.drop ((id - 1).toNat + 1), ?_, ?_⟩
  · rw [← List.drop_eq_getElem_cons hl, List.take_append_drop]
  · rw [List.length_take]; omega
theorem tbl_at {X Y : List Tb} {t : Tb} {id : Int} (h : (X.length : Int) = id - 1) : tbl (X ++ t :: Y) id = some t := by
  have e : (id - 1).toNat = X.length := by omega
  unfold tbl
  rw [if_pos (by omega), e, List.getElem?_append_right (Nat.le_refl _), Nat.sub_self]
  rfl
theorem updA_at {X Y : List Tb} {t : Tb} {id : Int} (h : (X.length : Int) = id - 1) (f : Tb → Tb) : updA (X ++ t :: Y) id f = X ++ f t :: Y := by
  have e : (id - 1).toNat = X.length := by omega
  unfold updA
  rw [if_pos (by omega), e]
  apply List.ext_getElem?
  intro i
  rw [List.getElem?_modify]
  by_cases hi : X.length = i
  · subst hi; simp
  · by_cases h1 : i < X.length
    · rw [List.getElem?_append_left h1, List.getElem?_append_left h1]; simp [hi]
    · rw [List.getElem?_append_right (by omega), List.getElem?_append_right (by omega)]
      obtain ⟨j, hj⟩ : ∃ j, i - X.length = j + 1 := ⟨i - X.length - 1, by omega⟩
      rw [hj]; simp [hi]
/-! ### the map of indexes -/
/-- A key. -/
def pk (id : Int) (s : ByteArray) : Value := .agg #[.int .i64 id, .string s]
theorem pk_inj {id id' : Int} {s s' : ByteArray} (h : pk id s = pk id' s') : id = id' ∧ s = s' := by
  unfold pk at h
  injection h with h
  have h1 := congrArg (·[0]?) h
  have h2 := congrArg (·[1]?) h
  simp at h1 h2
  exact ⟨h1, h2⟩
theorem klaw : Maps.Keyed Try.prog 82 := Maps.Keyed.of_law (deep_law_gate (by kernel_rfl) (by decide +kernel) (by decide +kernel) (by kernel_rfl) (by rw [Try.underlying82]))
def I64 (x : Int) : Prop := (Lit.int .i64 x).wf = true
theorem keyT : Try.prog.keyType 82 = true := by kernel_rfl
theorem cellsPl : Try.prog.cellsOf 82 = 2 := by kernel_rfl
theorem cells3 : Try.prog.cellsOf 3 = 1 := by kernel_rfl
theorem cells9 : Try.prog.cellsOf 9 = 1 := by kernel_rfl
theorem pk_key (id : Int) (s : ByteArray) (hi : I64 id) (hs : s.size ≤ maxLen) : ∃ l, keyOf Try.prog 82 (pk id s) = some l := by
  obtain ⟨d, hd⟩ : ∃ d, Try.prog.types.size = d + 1 := ⟨Try.prog.types.size - 1, by kernel_rfl⟩
  refine ⟨.string (keyBytes [.int .i64 id, .string s.data.toList]), ?_⟩
  unfold I64 at hi
  have e3 : Try.prog.keyLits (d + 1) 3 [.int .i64 id] = some [.int .i64 id] := by simp [Program.keyLits, Try.underlying3, hi]
  have e9 : Try.prog.keyLits (d + 1) 9 [.string s] = some [.string s.data.toList] := by simp [Program.keyLits, Try.underlying9, hs]
  have eL : Try.prog.keyLits (d + 1 + 1) 82 [.int .i64 id, .string s] = some [.int .i64 id, .string s.data.toList] := by
    unfold Program.keyLits
    simp [Try.underlying82, cellsPl, cells3, cells9, e3, e9]
  have ef : (pk id s).formed Try.prog 82 = true := by
    unfold Value.formed pk
    simp [Try.underlying82, cellsPl]
  have ec : (pk id s).cells.toList = [.int .i64 id, .string s] := rfl
  unfold keyOf
  simp only [Try.underlying82, keyT, ef, ec, hd, eL]
  rfl
/-- A map whose keys are those of which H is so. -/
structure MapB (w : World) (b : Nat) (H : Int → ByteArray → Prop) (es : Array MapEntry) (clock : Nat) : Prop where
  blk : w.heap[b]? = some (.map es clock)
  st : Stamped es clock
  key : ∀ e ∈ es.toList, ∃ id s, e.key = pk id s ∧ I64 id ∧ s.size ≤ maxLen ∧ e.val = .agg #[]
  all : ∀ id s, (∃ e ∈ es.toList, e.key = pk id s) ↔ H id s
def MapS (w : World) (mv : Value) (H : Int → ByteArray → Prop) : Prop := (mv = .map none ∧ ∀ id s, ¬ H id s) ∨ ∃ b es clock, mv = .map (some b) ∧ MapB w b H es clock
theorem MapB.keys {w : World} {b : Nat} {H : Int → ByteArray → Prop} {es : Array MapEntry} {clock : Nat} (h : MapB w b H es clock) : ∀ e ∈ es.toList, ∃ l, keyOf Try.prog 82 e.key = some l := fun e he => by
  obtain ⟨id, s, h1, h2, h3, _⟩ := h.key e he
  rw [h1]
  exact pk_key id s h2 h3
theorem MapS.lookup {w : World} {mv : Value} {H : Int → ByteArray → Prop} (h : MapS w mv H) (id : Int) (s : ByteArray) (hi : I64 id) (hs : s.size ≤ maxLen) (b : Bool) (hb : b = true ↔ H id s) :
    (Instr.lookup 68 mv (pk id s) true).run Try.prog w = .ok (.tuple #[.agg #[], .bool b]) w := by
  obtain ⟨l, hl⟩ := pk_key id s hi hs
  have hz : (zeroValue 79).run Try.prog w = .ok (.agg #[]) w := by kernel_rfl
  rcases h with ⟨rfl, hn⟩ | ⟨bk, es, clock, rfl, hm⟩
  · have : b = false := by
      cases b with
      | false => rfl
      | true => exact absurd (hb.1 rfl) (hn id s)
    subst this
    have h1 : (Instr.findKey 82 (pk id s) []).run Try.prog w = .ok none w := by
      rcases klaw.find w hl [] (by simp) with ⟨h1, _⟩ | ⟨j, e0, _, h2, _⟩
      · exact h1
      · simp at h2
    simp [Instr.lookup, run_underlying Try.underlying68, klaw.check w _ hl, h1, hz, Result.andThen]
  · rcases klaw.find w hl es.toList hm.keys with ⟨h1, h2⟩ | ⟨j, e0, h1, h2, h3⟩
    · have : b = false := by
        cases b with
        | false => rfl
        | true =>
          obtain ⟨e, he, hk⟩ := (hm.all id s).2 (hb.1 rfl)
          exact absurd hk (h2 e he)
      subst this
      simp [Instr.lookup, run_underlying Try.underlying68, MapKept.run_getObj_map hm.blk, klaw.check w _ hl, h1, hz, Result.andThen]
    · have he := List.mem_of_getElem? h2
      have : b = true := hb.2 ((hm.all id s).1 ⟨e0, he, h3⟩)
      subst this
      obtain ⟨_, _, _, _, _, hv⟩ := hm.key e0 he
      simp [Instr.lookup, run_underlying Try.underlying68, MapKept.run_getObj_map hm.blk, klaw.check w _ hl, h1, hv, Result.andThen]
theorem MapB.update {w : World} {b : Nat} {H : Int → ByteArray → Prop} {es : Array MapEntry} {clock : Nat} (hm : MapB w b H es clock) (id : Int) (s : ByteArray) (hi : I64 id) (hs : s.size ≤ maxLen) (hn : ¬ H id s) :
    ∃ w' es' clock', (Instr.mapUpdate 68 (.map (some b)) (pk id s) (.agg #[])).run Try.prog w = .ok () w' ∧ MapB w' b (fun i t => H i t ∨ (i = id ∧ t = s)) es' clock' ∧ w.grownBy w' (some b) := by
  obtain ⟨l, hl⟩ := pk_key id s hi hs
  rcases klaw.find w hl es.toList hm.keys with ⟨h1, h2⟩ | ⟨j, e0, h1, h2, h3⟩
  · refine ⟨ChangeMaps.setBlock w b (.map (es.push ⟨pk id s, .agg #[], clock⟩) (clock + 1)), es.push ⟨pk id s, .agg #[], clock⟩, clock + 1, ?_, ⟨ChangeMaps.heap_setBlock_same hm.blk _, stamped_push hm.st h2, ?_, ?_⟩, ⟨rfl, rfl, rfl, by simp [ChangeMaps.setBlock], fun i _ hi => ChangeMaps.heap_setBlock_other hm.blk _ (fun e => hi (by rw [e]))⟩⟩
    · simp [Instr.mapUpdate, run_underlying Try.underlying68, MapKept.run_getObj_map hm.blk, klaw.check w false hl, h1, MapKept.run_setObj_map _ hm.blk, Result.andThen, ChangeMaps.setBlock]
    · intro e he
      simp only [Array.toList_push, List.mem_append, List.mem_singleton] at he
      rcases he with he | rfl
      · exact hm.key e he
      · exact ⟨id, s, rfl, hi, hs, rfl⟩
    · intro i t
      simp only [Array.toList_push, List.mem_append, List.mem_singleton]
      constructor
      · rintro ⟨e, he | rfl, hk⟩
        · exact .inl ((hm.all i t).1 ⟨e, he, hk⟩)
        · obtain ⟨e1, e2⟩ := pk_inj hk
          exact .inr ⟨e1.symm, e2.symm⟩
      · rintro (h | ⟨rfl, rfl⟩)
        · obtain ⟨e, he, hk⟩ := (hm.all i t).2 h
          exact ⟨e, .inl he, hk⟩
        · exact ⟨_, .inr rfl, rfl⟩
  · exact absurd ((hm.all id s).1 ⟨e0, List.mem_of_getElem? h2, h3⟩) hn
theorem MapB.delete {w : World} {b : Nat} {H : Int → ByteArray → Prop} {es : Array MapEntry} {clock : Nat} (hm : MapB w b H es clock) (ty : TypeId) (id : Int) (s : ByteArray) (hi : I64 id) (hs : s.size ≤ maxLen) :
    ∃ w' es', (Builtin.delete_ #[68, 82] ty #[.map (some b), pk id s]).run Try.prog w = .ok (.tuple #[]) w' ∧ MapB w' b (fun i t => H i t ∧ ¬ (i = id ∧ t = s)) es' clock ∧ w.grownBy w' (some b) := by
  obtain ⟨l, hl⟩ := pk_key id s hi hs
  rcases klaw.find w hl es.toList hm.keys with ⟨h1, h2⟩ | ⟨j, e0, h1, h2, h3⟩
  · refine ⟨ChangeMaps.setBlock w b (.map es clock), es, ?_, ⟨ChangeMaps.heap_setBlock_same hm.blk _, hm.st, hm.key, ?_⟩, ⟨rfl, rfl, rfl, by simp [ChangeMaps.setBlock], fun i _ hi => ChangeMaps.heap_setBlock_other hm.blk _ (fun e => hi (by rw [e]))⟩⟩
    · simp [Builtin.delete_, run_underlying Try.underlying68, MapKept.run_getObj_map hm.blk, klaw.check w _ hl, h1, MapKept.run_setObj_map _ hm.blk, Result.andThen, ChangeMaps.setBlock]
    · intro i t
      rw [hm.all i t]
      constructor
      · intro h
        refine ⟨h, ?_⟩
        rintro ⟨rfl, rfl⟩
        obtain ⟨e, he, hk⟩ := (hm.all i t).2 h
        exact h2 e he hk
      · exact fun h => h.1
  · have hjl : j < es.toList.length := (List.getElem?_eq_some_iff.1 h2).1
    have hjs : j < es.size := by simpa using hjl
    have hsub : (es.eraseIdxIfInBounds j).toList = es.toList.eraseIdx j := by
      unfold Array.eraseIdxIfInBounds
      rw [dif_pos hjs]
      simp
    have hnd : es.toList.Pairwise (fun x y => x.key ≠ y.key) := ((stamped_iff es clock).1 hm.st).2.2
    refine ⟨ChangeMaps.setBlock w b (.map (es.eraseIdxIfInBounds j) clock), es.eraseIdxIfInBounds j, ?_, ⟨ChangeMaps.heap_setBlock_same hm.blk _, stamped_erase hm.st j, ?_, ?_⟩, ⟨rfl, rfl, rfl, by simp [ChangeMaps.setBlock], fun i _ hi => ChangeMaps.heap_setBlock_other hm.blk _ (fun e => hi (by rw [e]))⟩⟩
    · simp [Builtin.delete_, run_underlying Try.underlying68, MapKept.run_getObj_map hm.blk, klaw.check w _ hl, h1, MapKept.run_setObj_map _ hm.blk, Result.andThen, ChangeMaps.setBlock]
    · intro e he
      rw [hsub] at he
      exact hm.key e ((List.eraseIdx_sublist _ _).subset he)
    · intro i t
      rw [hsub]
      constructor
      · rintro ⟨e, he, hk⟩
        obtain ⟨q, hq, hqe⟩ := List.mem_eraseIdx_iff_getElem?.1 he
        refine ⟨(hm.all i t).1 ⟨e, List.mem_of_getElem? hqe, hk⟩, ?_⟩
        rintro ⟨rfl, rfl⟩
        have hql : q < es.toList.length := (List.getElem?_eq_some_iff.1 hqe).1
        have a1 : es.toList[q].key = pk i t := by rw [(List.getElem?_eq_some_iff.1 hqe).2]; exact hk
        have a2 : es.toList[j].key = pk i t := by rw [(List.getElem?_eq_some_iff.1 h2).2]; exact h3
        rcases Nat.lt_or_gt_of_ne hq with hlt | hlt
        · exact List.pairwise_iff_getElem.1 hnd q j hql hjl hlt (a1.trans a2.symm)
        · exact List.pairwise_iff_getElem.1 hnd j q hjl hql hlt (a2.trans a1.symm)
      · rintro ⟨h, hne⟩
        obtain ⟨e, he, hk⟩ := (hm.all i t).2 h
        obtain ⟨q, hq⟩ := List.getElem?_of_mem he
        refine ⟨e, List.mem_eraseIdx_iff_getElem?.2 ⟨q, ?_, hq⟩, hk⟩
        rintro rfl
        rw [h2] at hq
        injection hq with hq
        subst hq
        exact hne (pk_inj (hk.symm.trans h3))
theorem MapB.upd {S : Nat → Prop} {w w' : World} {b : Nat} {H : Int → ByteArray → Prop} {es : Array MapEntry} {clock : Nat} (hm : MapB w b H es clock) (u : Upd S w w') (hn : ¬ S b) : MapB w' b H es clock :=
  ⟨by rw [u.block b (Array.getElem?_eq_some_iff.1 hm.blk).1 hn]; exact hm.blk, hm.st, hm.key, hm.all⟩
theorem MapB.congr {w : World} {b : Nat} {H H' : Int → ByteArray → Prop} {es : Array MapEntry} {clock : Nat} (hm : MapB w b H es clock) (h : ∀ i t, H i t ↔ H' i t) : MapB w b H' es clock :=
  ⟨hm.blk, hm.st, hm.key, fun i t => (hm.all i t).trans (h i t)⟩
theorem MapS.upd {S : Nat → Prop} {w w' : World} {mv : Value} {H : Int → ByteArray → Prop} (h : MapS w mv H) (u : Upd S w w') (hn : ∀ b, mv = .map (some b) → ¬ S b) : MapS w' mv H := by
  rcases h with h | ⟨b, es, clock, h1, h2⟩
  · exact .inl h
  · exact .inr ⟨b, es, clock, h1, h2.upd u (hn b h1)⟩
theorem MapS.congr {w : World} {mv : Value} {H H' : Int → ByteArray → Prop} (h : MapS w mv H) (e : ∀ i t, H i t ↔ H' i t) : MapS w mv H' := by
  rcases h with ⟨h1, h2⟩ | ⟨b, es, clock, h1, h2⟩
  · exact .inl ⟨h1, fun i t h => h2 i t ((e i t).2 h)⟩
  · exact .inr ⟨b, es, clock, h1, h2.congr e⟩
theorem MapB.made (w : World) : MapB (w.alloc (.map #[] 0)) w.heap.size (fun _ _ => False) #[] 0 :=
  ⟨(MapKept.heap_alloc w _).1, stamped_empty 0, by simp, by simp⟩
theorem MapS.row {w : World} {mv : Value} {H : Int → ByteArray → Prop} {e k n : Nat} {v : Value} {xs : List Value} (h : MapS w mv H) (hr : w.ownsRow 0 e k v n xs) {x : Nat} (hx : v.ownBlock = some x) : mv ≠ .map (some x) := by
  obtain ⟨cs, h1⟩ := row_tag hr hx
  rintro rfl
  rcases h with ⟨h, _⟩ | ⟨b, es, clock, hb, hm⟩
  · cases h
  · injection hb with hb
    injection hb with hb
    subst hb
    rw [hm.blk] at h1
    cases h1
theorem MapS.blk {w : World} {mv : Value} {H : Int → ByteArray → Prop} {g t : Nat} {vs : List Value} (h : MapS w mv H) (hr : Blk w g t vs) : mv ≠ .map (some g) := by
  rintro rfl
  rcases h with ⟨h, _⟩ | ⟨b, es, clock, hb, hm⟩
  · cases h
  · injection hb with hb
    injection hb with hb
    subst hb
    have := hm.blk
    unfold Blk at hr
    rw [hr] at this
    cases this
#print axioms MapS.lookup
#print axioms MapB.update
#print axioms MapB.delete
end Go.Proofs.Ytbkogaencjmmgaa
