/-
  Both catalogs side by side.
-/
import Derived.Test.YtbkogaencjmmgaaDf
import Derived.Test.YtbkogaencjmmgaaDh
import Derived.Test.YtbkogaencjmmgaaOrv
namespace Go.Proofs.Ytbkogaencjmmgaa
open Go.RowKit Go.MapKept
set_option linter.unusedVariables false
set_option linter.unusedSimpArgs false
theorem Rfc.shrink {S : Nat → Prop} {w : World} {g : Nat} {A : List Tb} (h : Rfc w S g A) : Rfc w (fun x => S x ∧ x < w.heap.size) g A := by
  obtain ⟨lv, L, hM, e, hI⟩ := h
  exact ⟨lv, L, hM, e, ⟨hI.g, hM.blk.lt⟩, fun x hx => ⟨hI.lv x hx, row_lt hM.row hx⟩, fun p hp x hx => ⟨hI.fld p hp x hx, row_lt (hM.fld p hp) hx⟩⟩
/-- Both, apart, in blocks from B on and below N. -/
def Two (B N : Nat) (w0 w : World) (g : Nat) (A : List Tb) (gr : Nat) (A' : List Tb) : Prop := ∃ S R : Nat → Prop, Cat w S g A ∧ Rfc w R gr A' ∧ (∀ x, S x → ¬ R x) ∧ (∀ x, S x → B ≤ x ∧ x < N) ∧ (∀ x, R x → B ≤ x ∧ x < N) ∧ Below B w0 w ∧ B ≤ N ∧ N ≤ w.heap.size ∧ B ≤ w0.heap.size
theorem Two.bl {B N : Nat} {w0 w : World} {g gr : Nat} {A A' : List Tb} (h : Two B N w0 w g A gr A') : Below B w0 w := by
  obtain ⟨S, R, h1, h2, h3, h4, h5, h6, h7, h8, h9⟩ := h
  exact h6
theorem Two.ok {B N : Nat} {w0 w : World} {g gr : Nat} {A A' : List Tb} (h : Two B N w0 w g A gr A') : OkA A := by
  obtain ⟨S, R, h1, h2⟩ := h
  exact h1.ok
theorem Two.le {B N : Nat} {w0 w : World} {g gr : Nat} {A A' : List Tb} (h : Two B N w0 w g A gr A') : B ≤ N ∧ N ≤ w.heap.size := by
  obtain ⟨S, R, h1, h2, h3, h4, h5, h6, h7, h8, h9⟩ := h
  exact ⟨h7, h8⟩
theorem Two.upd {B N : Nat} {w0 w w' : World} {g gr : Nat} {A A' : List Tb} (h : Two B N w0 w g A gr A') (u : Upd (fun x => N ≤ x) w w') : Two B N w0 w' g A gr A' := by
  obtain ⟨S, R, h1, h2, h3, h4, h5, h6, h7, h8, h9⟩ := h
  exact ⟨S, R, h1.upd u (fun x hx q => by have := h4 x hx; omega), h2.upd u (fun x hx q => by have := h5 x hx; omega), h3, h4, h5, Upd.below h6 u h9 (fun x hx => Nat.le_trans h7 hx), h7, Nat.le_trans h8 u.size, h9⟩
theorem Two.below {B N : Nat} {w0 w w' : World} {g gr : Nat} {A A' : List Tb} (h : Two B N w0 w g A gr A') (b : Below w.heap.size w w') : Two B N w0 w' g A gr A' := h.upd (Upd.of_below _ b)
theorem two_apply (B N : Nat) (w0 : World) (g gr : Nat) (A A' : List Tb) (k id : Int) (s : ByteArray) (ec : List Value) (he : EnC k id s ec) (hs : s.size ≤ 281474976710656) (w : World) (h : Two B N w0 w g A gr A') :
    Calls Try.prog 10 #[.pointer (some ⟨g, 0, none⟩), .agg ec.toArray] w fun e w' => e = .returned (.int .i64 (apE A k id s)) ∧ Hid (Two B w'.heap.size w0 w' g (apA A k id s) gr A') := by
  obtain ⟨S, R, h1, h2, h3, h4, h5, h6, h7, h8, h9⟩ := h
  refine (apply_any S g A k id s ec he hs w h1).mono ?_
  rintro e w' ⟨rfl, H⟩
  obtain ⟨q1, q2⟩ := H.out
  refine ⟨rfl, _, R, q1.shrink, h2.upd q2 (fun x hx q => h3 x q hx), fun x hx hr => ?_, fun x hx => ⟨?_, hx.2⟩, fun x hx => ⟨(h5 x hx).1, ?_⟩, Upd.below h6 q2 h9 (fun x hx => (h4 x hx).1), ?_, Nat.le_refl _, h9⟩
  · rcases hx.1 with hx | hx
    · exact h3 x hx hr
    · have := h5 x hr; omega
  · rcases hx.1 with hx | hx
    · exact (h4 x hx).1
    · omega
  · have := h5 x hx; have := q2.size; omega
  · have := q2.size; omega
theorem two_rap (B N : Nat) (w0 : World) (g gr : Nat) (A A' : List Tb) (k id : Int) (s : ByteArray) (ec : List Value) (he : EnC k id s ec) (w : World) (h : Two B N w0 w g A gr A') :
    Calls Try.prog 11 #[.pointer (some ⟨gr, 0, none⟩), .agg ec.toArray] w fun e w' => e = .returned (.int .i64 (apE A' k id s)) ∧ Hid (Two B w'.heap.size w0 w' g A gr (apA A' k id s)) := by
  obtain ⟨S, R, h1, h2, h3, h4, h5, h6, h7, h8, h9⟩ := h
  refine (rap_any R gr A' k id s ec he w h2).mono ?_
  rintro e w' ⟨rfl, H⟩
  obtain ⟨q1, q2⟩ := H.out
  refine ⟨rfl, S, _, h1.upd q2 (fun x hx q => h3 x hx q), q1.shrink, fun x hx hr => ?_, fun x hx => ⟨(h4 x hx).1, ?_⟩, fun x hx => ⟨?_, hx.2⟩, Upd.below h6 q2 h9 (fun x hx => (h5 x hx).1), ?_, Nat.le_refl _, h9⟩
  · rcases hr.1 with hr | hr
    · exact h3 x hx hr
    · have := h4 x hx; omega
  · have := h4 x hx; have := q2.size; omega
  · rcases hx.1 with hx | hx
    · exact (h5 x hx).1
    · omega
  · have := q2.size; omega
theorem two_find (B N : Nat) (w0 : World) (g gr : Nat) (A A' : List Tb) (s : ByteArray) (w : World) (h : Two B N w0 w g A gr A') : Calls Try.prog 12 #[.pointer (some ⟨g, 0, none⟩), .string s] w fun e w' => ∃ iv, e = .returned (rV (finR A s) iv) ∧ Hid (Told w.heap.size w' (finR A s).2.1.fs iv ∧ Below w.heap.size w w') := by
  obtain ⟨S, R, h1, _⟩ := h
  exact find_any S g A s w h1
theorem two_rfind (B N : Nat) (w0 : World) (g gr : Nat) (A A' : List Tb) (s : ByteArray) (w : World) (h : Two B N w0 w g A gr A') : Calls Try.prog 13 #[.pointer (some ⟨gr, 0, none⟩), .string s] w fun e w' => ∃ fv, e = .returned (rV (finR A' s) fv) ∧ Hid (Txs w' fv (finR A' s).2.1.fs ∧ Below w.heap.size w w') := by
  obtain ⟨S, R, _, h2, _⟩ := h
  exact rfind_any R gr A' s w h2
theorem two_table (B N : Nat) (w0 : World) (g gr : Nat) (A A' : List Tb) (id : Int) (w : World) (h : Two B N w0 w g A gr A') : Calls Try.prog 14 #[.pointer (some ⟨g, 0, none⟩), .int .i64 id] w fun e w' => ∃ iv, e = .returned (rV (tabR A id) iv) ∧ Hid (Told w.heap.size w' (tabR A id).2.1.fs iv ∧ Below w.heap.size w w') := by
  obtain ⟨S, R, h1, _⟩ := h
  exact table_any S g A id w h1
theorem two_rtable (B N : Nat) (w0 : World) (g gr : Nat) (A A' : List Tb) (id : Int) (w : World) (h : Two B N w0 w g A gr A') : Calls Try.prog 15 #[.pointer (some ⟨gr, 0, none⟩), .int .i64 id] w fun e w' => ∃ fv, e = .returned (rV (tabR A' id) fv) ∧ Hid (Txs w' fv (tabR A' id).2.1.fs ∧ Below w.heap.size w w') := by
  obtain ⟨S, R, _, h2, _⟩ := h
  exact rtable_any R gr A' id w h2
theorem two_has (B N : Nat) (w0 : World) (g gr : Nat) (A A' : List Tb) (id : Int) (s : ByteArray) (hi : I64 id) (hs : s.size ≤ maxLen) (w : World) (h : Two B N w0 w g A gr A') : Calls Try.prog 17 #[.pointer (some ⟨g, 0, none⟩), .int .i64 id, .string s] w fun e w' => e = .returned (.bool (hasB A id s)) ∧ Below w.heap.size w w' := by
  obtain ⟨S, R, h1, _⟩ := h
  obtain ⟨tv, dm, mv, L, hM, rfl, hI⟩ := h1
  exact has_any g tv mv dm L id s hi hs w hM
theorem two_rhas (B N : Nat) (w0 : World) (g gr : Nat) (A A' : List Tb) (id : Int) (s : ByteArray) (w : World) (h : Two B N w0 w g A gr A') : Calls Try.prog 18 #[.pointer (some ⟨gr, 0, none⟩), .int .i64 id, .string s] w fun e w' => e = .returned (.bool (hasB A' id s)) ∧ w' = w := by
  obtain ⟨S, R, _, h2, _⟩ := h
  exact rhas_any R gr A' id s w h2
theorem two_all (B N : Nat) (w0 : World) (g gr : Nat) (A A' : List Tb) (w : World) (h : Two B N w0 w g A gr A') : Calls Try.prog 21 #[.pointer (some ⟨g, 0, none⟩)] w fun e w' => ∃ bo, e = .returned (.slice (some ⟨bo, 0, none⟩) A.length A.length) ∧ Hid ((∃ M, AllR w.heap.size w' (.slice (some ⟨bo, 0, none⟩) A.length A.length) A M) ∧ Below w.heap.size w w') := by
  obtain ⟨S, R, h1, _⟩ := h
  exact all_any S g A w h1
/-- An old catalog beside the two. -/
def Thr (B N : Nat) (w0 w : World) (go : Nat) (Ao : List Tb) (g : Nat) (A : List Tb) (gr : Nat) (A' : List Tb) : Prop := ∃ So S R : Nat → Prop, Cat w So go Ao ∧ Cat w S g A ∧ Rfc w R gr A' ∧ (∀ x, S x → ¬ R x) ∧ (∀ x, So x → ¬ S x ∧ ¬ R x) ∧ (∀ x, So x → B ≤ x ∧ x < N) ∧ (∀ x, S x → B ≤ x ∧ x < N) ∧ (∀ x, R x → B ≤ x ∧ x < N) ∧ Below B w0 w ∧ B ≤ N ∧ N ≤ w.heap.size ∧ B ≤ w0.heap.size
theorem Thr.two {B N : Nat} {w0 w : World} {go g gr : Nat} {Ao A A' : List Tb} (h : Thr B N w0 w go Ao g A gr A') : Two B N w0 w g A gr A' := by
  obtain ⟨So, S, R, h0, h1, h2, h3, hd, ho, h4, h5, h6, h7, h8, h9⟩ := h
  exact ⟨S, R, h1, h2, h3, h4, h5, h6, h7, h8, h9⟩
theorem two_copy (B N : Nat) (w0 : World) (g gr : Nat) (A A' : List Tb) (w : World) (h : Two B N w0 w g A gr A') : Calls Try.prog 19 #[.pointer (some ⟨g, 0, none⟩)] w fun e w' => ∃ gn, e = .returned (.pointer (some ⟨gn, 0, none⟩)) ∧ Hid (Thr B w'.heap.size w0 w' g A gn A gr A') := by
  obtain ⟨S, R, h1, h2, h3, h4, h5, h6, h7, h8, h9⟩ := h
  refine (copy_any S g A w h1).mono ?_
  rintro e w' ⟨gn, rfl, H⟩
  obtain ⟨q1, q2⟩ := H.out
  have hsz := q2.size
  refine ⟨gn, rfl, S, _, R, h1.below q2, q1.shrink, h2.below q2, fun x hx hr => ?_, fun x hx => ⟨fun q => ?_, h3 x hx⟩, fun x hx => ?_, fun x hx => ?_, fun x hx => ?_, h6.trans (q2.mono (by omega)), by omega, Nat.le_refl _, h9⟩
  · have := h5 x hr; have := hx.1; omega
  · have := h4 x hx; have := q.1; omega
  · have := h4 x hx; omega
  · have := hx.1; have := hx.2; omega
  · have := h5 x hx; omega
theorem thr_rcopy (B N : Nat) (w0 : World) (go g gr : Nat) (Ao A A' : List Tb) (w : World) (h : Thr B N w0 w go Ao g A gr A') : Calls Try.prog 20 #[.pointer (some ⟨gr, 0, none⟩)] w fun e w' => ∃ gn, e = .returned (.pointer (some ⟨gn, 0, none⟩)) ∧ Hid (Thr B w'.heap.size w0 w' go Ao g A gn A') := by
  obtain ⟨So, S, R, h0, h1, h2, h3, hd, ho, h4, h5, h6, h7, h8, h9⟩ := h
  refine (rcopy_any R gr A' w h2).mono ?_
  rintro e w' ⟨gn, rfl, H⟩
  obtain ⟨q1, q2⟩ := H.out
  have hsz := q2.size
  refine ⟨gn, rfl, So, S, _, h0.below q2, h1.below q2, q1.shrink, fun x hx hr => ?_, fun x hx => ⟨(hd x hx).1, fun q => ?_⟩, fun x hx => ?_, fun x hx => ?_, fun x hx => ?_, h6.trans (q2.mono (by omega)), by omega, Nat.le_refl _, h9⟩
  · have := h4 x hx; have := hr.1; omega
  · have := ho x hx; have := q.1; omega
  · have := ho x hx; omega
  · have := h4 x hx; omega
  · have := hx.1; have := hx.2; omega
theorem thr_apply (B N : Nat) (w0 : World) (go g gr : Nat) (Ao A A' : List Tb) (k id : Int) (s : ByteArray) (ec : List Value) (he : EnC k id s ec) (hs : s.size ≤ 281474976710656) (w : World) (h : Thr B N w0 w go Ao g A gr A') :
    Calls Try.prog 10 #[.pointer (some ⟨go, 0, none⟩), .agg ec.toArray] w fun e w' => e = .returned (.int .i64 (apE Ao k id s)) ∧ Hid (Thr B w'.heap.size w0 w' go (apA Ao k id s) g A gr A') := by
  obtain ⟨So, S, R, h0, h1, h2, h3, hd, ho, h4, h5, h6, h7, h8, h9⟩ := h
  refine (apply_any So go Ao k id s ec he hs w h0).mono ?_
  rintro e w' ⟨rfl, H⟩
  obtain ⟨q1, q2⟩ := H.out
  have hsz := q2.size
  refine ⟨rfl, _, S, R, q1.shrink, h1.upd q2 (fun x hx q => (hd x q).1 hx), h2.upd q2 (fun x hx q => (hd x q).2 hx), h3, fun x hx => ?_, fun x hx => ⟨?_, hx.2⟩, fun x hx => ?_, fun x hx => ?_, Upd.below h6 q2 h9 (fun x hx => (ho x hx).1), by omega, Nat.le_refl _, h9⟩
  · rcases hx.1 with hx | hx
    · exact hd x hx
    · exact ⟨fun q => by have := h4 x q; omega, fun q => by have := h5 x q; omega⟩
  · rcases hx.1 with hx | hx
    · exact (ho x hx).1
    · omega
  · have := h4 x hx; omega
  · have := h5 x hx; omega
theorem two_new (B : Nat) (w0 w : World) (g : Nat) (h : St B w0 w g []) (gr : Nat) (w' : World) (b : Below w.heap.size w w') (hb : Blk w' gr 30 [.slice none 0 0]) (hg : w.heap.size ≤ gr) : Two B w'.heap.size w0 w' g [] gr [] := by
  obtain ⟨S, h1, h2, h3, h4, h5⟩ := h
  have hsz := b.size
  refine ⟨S, fun x => x = gr, h1.below b, ⟨_, [], ⟨hb, World.ownsRow_nil _ _ _ _, by simp, ⟨by simp [strip], by simp [strip]⟩⟩, rfl, ⟨rfl, by simp [Value.ownBlock], by simp⟩⟩, fun x hx e => by have := h2 x hx; omega, fun x hx => by have := h2 x hx; omega, fun x hx => by have := hb.lt; omega, h3.trans (b.mono h4), by omega, Nat.le_refl _, h5⟩
/-- What a step carries: both catalogs, variables, and rows of texts. -/
structure It (B N : Nat) (w0 W : World) (g : Nat) (A : List Tb) (gr : Nat) (Fs : List (Nat × TypeId × List Value)) (Ts : List (Value × List ByteArray)) (Os : List (Value × List ByteArray)) : Prop where
  two : Two B N w0 W g A gr A
  blk : ∀ f ∈ Fs, Blk W f.1 f.2.1 f.2.2
  txs : ∀ t ∈ Ts, Txs W t.1 t.2
  own : ∀ t ∈ Os, W.ownsRow 0 58 1 t.1 t.2.length (sts t.2) ∧ ∀ x, t.1.ownBlock = some x → N ≤ x
theorem It.below {B N : Nat} {w0 W W' : World} {g gr : Nat} {A : List Tb} {Fs : List (Nat × TypeId × List Value)} {Ts Os : List (Value × List ByteArray)} (h : It B N w0 W g A gr Fs Ts Os) (b : Below W.heap.size W W') : It B N w0 W' g A gr Fs Ts Os :=
  ⟨h.two.below b, fun f hf => (h.blk f hf).below b (h.blk f hf).lt, fun t ht => (h.txs t ht).below b, fun t ht => ⟨own_upd (h.own t ht).1 (Upd.of_below Non b) (fun _ _ q => q), (h.own t ht).2⟩⟩
theorem It.addB {B N : Nat} {w0 W : World} {g gr : Nat} {A : List Tb} {Fs : List (Nat × TypeId × List Value)} {Ts Os : List (Value × List ByteArray)} (h : It B N w0 W g A gr Fs Ts Os) {b : Nat} {t : TypeId} {cs : List Value} (hb : Blk W b t cs) : It B N w0 W g A gr ((b, t, cs) :: Fs) Ts Os :=
  ⟨h.two, fun f hf => by
    rcases List.mem_cons.1 hf with rfl | hf
    · exact hb
    · exact h.blk f hf, h.txs, h.own⟩
theorem It.addT {B N : Nat} {w0 W : World} {g gr : Nat} {A : List Tb} {Fs : List (Nat × TypeId × List Value)} {Ts Os : List (Value × List ByteArray)} (h : It B N w0 W g A gr Fs Ts Os) {v : Value} {fs : List ByteArray} (hb : Txs W v fs) : It B N w0 W g A gr Fs ((v, fs) :: Ts) Os :=
  ⟨h.two, h.blk, fun f hf => by
    rcases List.mem_cons.1 hf with rfl | hf
    · exact hb
    · exact h.txs f hf, h.own⟩
theorem It.addO {B N : Nat} {w0 W : World} {g gr : Nat} {A : List Tb} {Fs : List (Nat × TypeId × List Value)} {Ts Os : List (Value × List ByteArray)} (h : It B N w0 W g A gr Fs Ts Os) {v : Value} {fs : List ByteArray} (hb : W.ownsRow 0 58 1 v fs.length (sts fs)) (hn : ∀ x, v.ownBlock = some x → N ≤ x) : It B N w0 W g A gr Fs Ts ((v, fs) :: Os) :=
  ⟨h.two, h.blk, h.txs, fun f hf => by
    rcases List.mem_cons.1 hf with rfl | hf
    · exact ⟨hb, hn⟩
    · exact h.own f hf⟩
theorem fin_len {A : List Tb} (h : OkA A) (s : ByteArray) : (finR A s).2.1.fs.length ≤ 16 := by
  unfold finR
  split
  · rename_i t ht
    split
    · simp [zT]
    · exact (h.ok t (List.mem_of_getElem? ht)).len
  · simp [zT]
theorem tab_len {A : List Tb} (h : OkA A) (id : Int) : (tabR A id).2.1.fs.length ≤ 16 := by
  unfold tabR
  split
  · rename_i t ht
    unfold tbl at ht
    split at ht
    · exact (h.ok t (List.mem_of_getElem? ht)).len
    · cases ht
  · simp [zT]
#print axioms thr_apply
#print axioms two_copy
end Go.Proofs.Ytbkogaencjmmgaa
