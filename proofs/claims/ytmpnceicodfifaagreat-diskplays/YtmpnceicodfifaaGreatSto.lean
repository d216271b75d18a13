/-
  A store in memory: its block, its map of names to files, the files and their rows of bytes; and the laws on its map.
-/
import Derived.Test.YtmpnceicodfifaaGreatMem
namespace Go.Proofs.YtmpnceicodfifaaGreat
open Go.RowKit Go.Maps

abbrev Nm := List UInt8
/-- A file: the slice that holds it, its bytes, how many of them last. -/
structure File where
  v : Value
  b : List Nat
  k : Nat

/-! ### names and blocks -/
def get {α : Type} (ix : List (Nm × α)) (nm : Nm) : Option α := (ix.find? fun p => p.1 == nm).map (·.2)
def ins {α : Type} (x : Nm × α) : List (Nm × α) → List (Nm × α)
  | [] => [x]
  | y :: r => if bytesBefore x.1 y.1 then x :: y :: r else y :: ins x r
def del {α : Type} (nm : Nm) (ix : List (Nm × α)) : List (Nm × α) := ix.filter fun p => !(p.1 == nm)

def ent (p : Nm × Nat) : Lit × DataW Unit := (.string p.1, .lit (.int .i64 (p.2 : Int)))
/-- The map's datum. -/
def dat (ix : List (Nm × Nat)) : DataW Unit := .map (ix.map ent)
/-- How an element of the map reads: a file by its block. -/
def fileElem : Value → Option (DataW Unit × List MemPlace)
  | .pointer none => some (.nil, [])
  | .pointer (some ⟨b, 0, none⟩) => some (.lit (.int .i64 (b : Int)), [])
  | _ => none
theorem fileElem_some (b : Nat) : fileElem (.pointer (some ⟨b, 0, none⟩)) = some (.lit (.int .i64 (b : Int)), []) := rfl
theorem fileElem_nil {v : Value} {ps : List MemPlace} (h : fileElem v = some (.nil, ps)) : v = .pointer none := by
  unfold fileElem at h
  split at h <;> simp_all
theorem fileElem_inv {v : Value} {b : Nat} {ps : List MemPlace} (h : fileElem v = some (.lit (.int .i64 (b : Int)), ps)) : v = .pointer (some ⟨b, 0, none⟩) := by
  unfold fileElem at h
  split at h
  · simp at h
  · rename_i b'
    simp at h
    have : b' = b := by omega
    rw [this]
  · simp at h
theorem find_ent (ix : List (Nm × Nat)) (nm : Nm) : (ix.map ent).find? (fun p => p.1.sameKey (.string nm)) = (ix.find? fun p => p.1 == nm).map ent := by
  induction ix with
  | nil => rfl
  | cons p r ih =>
    rw [List.map_cons, List.find?_cons, List.find?_cons]
    have : (ent p).1.sameKey (.string nm) = (p.1 == nm) := rfl
    rw [this]
    cases p.1 == nm <;> simp [ih]
theorem atKey_dat (ix : List (Nm × Nat)) (nm : Nm) : (dat ix).atKey (.string nm) .nil = match get ix nm with | some f => .lit (.int .i64 (f : Int)) | none => .nil := by
  unfold dat DataW.atKey get
  simp only [find_ent]
  cases ix.find? (fun p => p.1 == nm) <;> rfl
theorem insert_ent (x : Nm × Nat) : ∀ ix : List (Nm × Nat), DataW.insert (ent x) (ix.map ent) = (ins x ix).map ent
  | [] => rfl
  | y :: r => by
    rw [List.map_cons, DataW.insert, ins, insert_ent x r]
    have : (ent x).1.before (ent y).1 = bytesBefore x.1 y.1 := rfl
    rw [this]
    cases bytesBefore x.1 y.1 <;> simp
theorem del_ent (ix : List (Nm × Nat)) (nm : Nm) : (ix.map ent).filter (fun p => !p.1.sameKey (.string nm)) = (del nm ix).map ent := by
  unfold del
  rw [List.filter_map]
  rfl
theorem put_dat (ix : List (Nm × Nat)) (nm : Nm) (f : Nat) : (dat ix).put (.string nm) (.lit (.int .i64 (f : Int))) = dat (ins (nm, f) (del nm ix)) := by
  unfold dat DataW.put
  simp only [del_ent]
  rw [show ((Lit.string nm, DataW.lit (Lit.int IntKind.i64 (f : Int))) : Lit × DataW Unit) = ent (nm, f) from rfl, insert_ent]
theorem del_dat (ix : List (Nm × Nat)) (nm : Nm) : (dat ix).del (.string nm) = dat (del nm ix) := by
  unfold dat DataW.del
  simp only [del_ent]
theorem del_of_none {α : Type} {ix : List (Nm × α)} {nm : Nm} (h : get ix nm = none) : del nm ix = ix := by
  unfold del
  refine List.filter_eq_self.2 fun p hp => ?_
  unfold get at h
  simp at h
  have := h p.1 p.2 hp
  simpa using this
theorem mem_of_get {α : Type} {ix : List (Nm × α)} {nm : Nm} {f : α} (h : get ix nm = some f) : (nm, f) ∈ ix := by
  unfold get at h
  cases e : ix.find? (fun p => p.1 == nm) with
  | none => simp [e] at h
  | some p =>
    simp [e] at h
    have h1 := List.mem_of_find?_eq_some e
    have h2 := List.find?_some e
    simp at h2
    rw [← h, ← h2]
    exact h1
theorem mem_ins {α : Type} {x p : Nm × α} : ∀ {ix : List (Nm × α)}, p ∈ ins x ix ↔ p = x ∨ p ∈ ix
  | [] => by simp [ins]
  | y :: r => by
    rw [ins]
    split
    · simp
    · rw [List.mem_cons, mem_ins, List.mem_cons]
      constructor
      · rintro (h | h | h)
        · exact .inr (.inl h)
        · exact .inl h
        · exact .inr (.inr h)
      · rintro (h | h | h)
        · exact .inr (.inl h)
        · exact .inl h
        · exact .inr (.inr h)
theorem length_ins {α : Type} (x : Nm × α) : ∀ ix : List (Nm × α), (ins x ix).length = ix.length + 1
  | [] => rfl
  | y :: r => by
    rw [ins]
    split
    · rfl
    · simp [length_ins x r]
theorem perm_ins {α : Type} (x : Nm × α) : ∀ ix : List (Nm × α), (ins x ix).Perm (x :: ix)
  | [] => List.Perm.refl _
  | y :: r => by
    rw [ins]
    split
    · exact List.Perm.refl _
    · exact ((perm_ins x r).cons y).trans (List.Perm.swap x y r)

/-! ### the frame: which blocks may have turned -/
structure Kept (S : Nat → Prop) (w w' : World) : Prop where
  os : w'.os = w.os
  tape : w'.tape = w.tape
  output : w'.output = w.output
  size : w.heap.size ≤ w'.heap.size
  block : ∀ i, i < w.heap.size → ¬ S i → w'.heap[i]? = w.heap[i]?
theorem Kept.refl (S : Nat → Prop) (w : World) : Kept S w w := ⟨rfl, rfl, rfl, Nat.le_refl _, fun _ _ _ => rfl⟩
theorem Kept.trans {S T : Nat → Prop} {a b c : World} (h : Kept S a b) (k : Kept T b c) (hT : ∀ i, i < a.heap.size → T i → S i) : Kept S a c :=
  ⟨k.os.trans h.os, k.tape.trans h.tape, k.output.trans h.output, Nat.le_trans h.size k.size, fun i hi hn => (k.block i (Nat.lt_of_lt_of_le hi h.size) (fun ht => hn (hT i hi ht))).trans (h.block i hi hn)⟩
theorem Kept.mono {S T : Nat → Prop} {a b : World} (h : Kept S a b) (hT : ∀ i, i < a.heap.size → S i → T i) : Kept T a b :=
  ⟨h.os, h.tape, h.output, h.size, fun i hi hn => h.block i hi fun hs => hn (hT i hi hs)⟩
theorem Kept.of_grown {S : Nat → Prop} {w w' : World} {row : Option Nat} (h : w.grownBy w' row) (hr : ∀ i, row = some i → S i) : Kept S w w' :=
  ⟨h.os, h.tape, h.output, h.size, fun i hi hn => h.block i hi fun e => hn (hr i e.symm)⟩
theorem Kept.of_below {S : Nat → Prop} {w w' : World} (h : Below w.heap.size w w') : Kept S w w' := ⟨h.os, h.tape, h.output, h.size, fun i hi _ => h.block i hi⟩
theorem Kept.below {S : Nat → Prop} {w w' : World} {B : Nat} (h : Kept S w w') (hB : B ≤ w.heap.size) (hS : ∀ i, S i → B ≤ i) : Below B w w' :=
  ⟨h.os, h.tape, h.output, h.size, fun i hi => h.block i (by omega) fun hs => by have := hS i hs; omega⟩
theorem Kept.alloc (S : Nat → Prop) (w : World) (o : Obj) : Kept S w (w.alloc o) := Kept.of_grown (World.grownBy_alloc w o none) (by simp)
theorem Kept.setCell {S : Nat → Prop} (w : World) (a : Addr) (u : Value) (h : S a.block) : Kept S w (w.setCell a u) := Kept.of_grown (grown_setCell w a u) (fun i e => by cases e; exact h)
theorem Blk.keptBy {S : Nat → Prop} {w w' : World} {b : Nat} {t : TypeId} {vs : List Value} (h : Blk w b t vs) (hk : Kept S w w') (hn : ¬ S b) : Blk w' b t vs := by
  unfold Blk; rw [hk.block b h.lt hn]; exact h
theorem Blk.ne {w : World} {b b' : Nat} {t t' : TypeId} {vs vs' : List Value} (h : Blk w b t vs) (h' : Blk w b' t' vs') (ht : t ≠ t') : b ≠ b' := by
  rintro rfl
  unfold Blk at h h'
  rw [h] at h'
  simp at h'
  exact ht h'.2

/-- A slice of bytes of the store's own. -/
theorem Own.blk {w : World} {base : Nat} {v : Value} {l : List Nat} (h : Own w base v l) {g : Nat} (hg : v.ownBlock = some g) : ∃ vs, Blk w g 5 vs := by
  rcases h with ⟨_, ⟨rfl, _⟩ | ⟨g', cap, cur, rfl, _, hh, _⟩⟩
  · cases hg
  · cases hg
    exact ⟨cur.toList, by unfold Blk; simpa using hh⟩
theorem Own.keptBy {S : Nat → Prop} {w w' : World} {base : Nat} {v : Value} {l : List Nat} (h : Own w base v l) (hk : Kept S w w') (hn : ∀ g, v.ownBlock = some g → ¬ S g) : Own w' base v l := by
  rcases h with ⟨h0, ⟨rfl, h1⟩ | ⟨g', cap, cur, rfl, h2, hh, h3⟩⟩
  · exact ⟨h0, .inl ⟨rfl, h1⟩⟩
  · refine ⟨h0, .inr ⟨g', cap, cur, rfl, h2, ?_, h3⟩⟩
    rw [hk.block g' (Array.getElem?_eq_some_iff.1 hh).1 (hn g' rfl)]
    exact hh
theorem ownsMap_keptBy {S : Nat → Prop} {w w' : World} {b n : Nat} {D : DataW Unit} (h : w.ownsMap Tryz.prog 9 fileElem b n D) (hk : Kept S w w') (hn : ¬ S b) : w'.ownsMap Tryz.prog 9 fileElem b n D := by
  have hlt := h.lt
  obtain ⟨es, clock, hb, F, hs, hD⟩ := h
  exact ⟨es, clock, (hk.block b hlt hn).trans hb, F, hs, hD⟩
theorem ownsMap_ne {w : World} {b b' n : Nat} {D : DataW Unit} {t : TypeId} {vs : List Value} (h : w.ownsMap Tryz.prog 9 fileElem b n D) (h' : Blk w b' t vs) : b' ≠ b := by
  rintro rfl
  obtain ⟨es, clock, hb, _⟩ := h
  unfold Blk at h'
  rw [hb] at h'
  cases h'

/-! ### the store -/
def head (lk room used fuse : Int) (bm : Nat) : List Value := [.int .i32 lk, .int .u32 0, .int .i64 room, .int .i64 used, .int .i64 fuse, .map (some bm)]
structure Inn (lk : Int) (w : World) (bs bm : Nat) (room used fuse : Int) (ix : List (Nm × Nat)) (ct : Nat → File) : Prop where
  blk : Blk w bs 84 (head lk room used fuse bm)
  map : w.ownsMap Tryz.prog 9 fileElem bm ix.length (dat ix)
  file : ∀ p ∈ ix, Blk w p.2 86 [(ct p.2).v, .int .u32 ((ct p.2).k : Int)]
  row : ∀ p ∈ ix, Own w 0 (ct p.2).v (ct p.2).b
  two : (ix.map (·.2)).Nodup
  apart : ∀ p ∈ ix, ∀ q ∈ ix, p.2 ≠ q.2 → ∀ g, (ct p.2).v.ownBlock = some g → (ct q.2).v.ownBlock ≠ some g
def foot (bs bm : Nat) (ix : List (Nm × Nat)) (ct : Nat → File) (i : Nat) : Prop := i = bs ∨ i = bm ∨ ∃ p ∈ ix, i = p.2 ∨ (ct p.2).v.ownBlock = some i
theorem Inn.keptBy {S : Nat → Prop} {lk : Int} {w w' : World} {bs bm : Nat} {room used fuse : Int} {ix : List (Nm × Nat)} {ct : Nat → File} (h : Inn lk w bs bm room used fuse ix ct) (hk : Kept S w w') (hn : ∀ i, foot bs bm ix ct i → ¬ S i) :
    Inn lk w' bs bm room used fuse ix ct :=
  ⟨h.blk.keptBy hk (hn _ (.inl rfl)), ownsMap_keptBy h.map hk (hn _ (.inr (.inl rfl))), fun p hp => (h.file p hp).keptBy hk (hn _ (.inr (.inr ⟨p, hp, .inl rfl⟩))),
   fun p hp => (h.row p hp).keptBy hk (fun _ hg => hn _ (.inr (.inr ⟨p, hp, .inr hg⟩))), h.two, h.apart⟩
/-- One cell of the store's own block is written. -/
theorem Inn.set {lk : Int} {w : World} {bs bm : Nat} {room used fuse : Int} {ix : List (Nm × Nat)} {ct : Nat → File} (h : Inn lk w bs bm room used fuse ix ct) (i : Nat) (v : Value) {lk' room' used' fuse' : Int}
    (e : (head lk room used fuse bm).set i v = head lk' room' used' fuse' bm) : Inn lk' (w.setCell ⟨bs, i, none⟩ v) bs bm room' used' fuse' ix ct := by
  have hk : Kept (fun j => j = bs) w (w.setCell ⟨bs, i, none⟩ v) := Kept.setCell w _ v rfl
  refine ⟨by rw [← e]; exact h.blk.set i v, ownsMap_keptBy h.map hk (fun e => ownsMap_ne h.map h.blk e.symm), fun p hp => (h.file p hp).keptBy hk ((h.file p hp).ne h.blk (by decide)), fun p hp => (h.row p hp).keptBy hk (fun g hg => ?_), h.two, h.apart⟩
  obtain ⟨_, hv⟩ := (h.row p hp).blk hg
  exact hv.ne h.blk (by decide)
theorem law9 : Keyed Tryz.prog 9 := string_keyed Tryz.underlying9
theorem zero54 (w : World) : (zeroValue 74).run Tryz.prog w = .ok (.pointer none) w := by kernel_rfl
theorem key9 {s : ByteArray} (h : s.size ≤ maxLen) : keyOf Tryz.prog 9 (.string s) = some (.string s.data.toList) := Go.WideMaps.keyOf_string_mk Tryz.underlying9 h
/-- 's.files[name]'. -/
theorem Inn.lookup {lk : Int} {w : World} {bs bm : Nat} {room used fuse : Int} {ix : List (Nm × Nat)} {ct : Nat → File} (h : Inn lk w bs bm room used fuse ix ct) {s : ByteArray} (hs : s.size ≤ maxLen) :
    (Instr.lookup 82 (.map (some bm)) (.string s) false).run Tryz.prog w = .ok (.pointer ((get ix s.data.toList).map fun f => ⟨f, 0, none⟩)) w := by
  obtain ⟨v, ps, hr, hv⟩ := h.map.lookup law9 Tryz.underlying82 (zero54 w) (zd := .nil) (zp := []) rfl (key9 hs)
  rw [atKey_dat] at hv
  rw [hr]
  cases e : get ix s.data.toList with
  | none => rw [e] at hv; rw [fileElem_nil hv]; rfl
  | some f => rw [e] at hv; rw [fileElem_inv hv]; rfl
#print axioms Inn.lookup
end Go.Proofs.YtmpnceicodfifaaGreat
