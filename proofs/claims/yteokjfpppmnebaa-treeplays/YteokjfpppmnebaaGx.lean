/-
  The document's tree that the call owns; Get, Ends of it; Put of a text that is there. · The document's tree: Put of a text that is not there. · The document's tree: Delete. · The document's tree: Copy.
-/
import Derived.Test.YteokjfpppmnebaaGa
import Derived.Test.YteokjfpppmnebaaQf
namespace Go.Proofs.Yteokjfpppmnebaa
open Go.RowKit
set_option linter.unusedVariables false
set_option linter.unusedSimpArgs false
def strs (es : List E) : List Value := es.map fun e => .string e.1
def ints (es : List E) : List Value := es.map fun e => .int .i64 e.2
theorem strs_len (es : List E) : (strs es).length = es.length := by simp [strs]
theorem ints_len (es : List E) : (ints es).length = es.length := by simp [ints]
theorem strs_app (a b : List E) : strs (a ++ b) = strs a ++ strs b := by simp [strs]
theorem ints_app (a b : List E) : ints (a ++ b) = ints a ++ ints b := by simp [ints]
theorem strs_one {es : List E} : ∀ v ∈ strs es, v.oneCell' = true := fun v hv => by
  obtain ⟨e, _, rfl⟩ := List.mem_map.1 hv
  rfl
theorem ints_one {es : List E} : ∀ v ∈ ints es, v.oneCell' = true := fun v hv => by
  obtain ⟨e, _, rfl⟩ := List.mem_map.1 hv
  rfl
/-- The document's tree, with rows of its own. -/
structure RO (w : World) (a : Nat) (K N : Value) (es : List E) : Prop where
  tree : Blk w a 31 [K, N]
  key : w.ownsRow 0 9 1 K es.length (strs es)
  num : w.ownsRow 0 3 1 N es.length (ints es)
def obl : Option Nat → List Nat
  | some k => [k]
  | none => []
theorem mem_obl {o : Option Nat} {x : Nat} : x ∈ obl o ↔ o = some x := by cases o <;> simp [obl, eq_comm]
/-- The blocks of the document's tree. -/
def fpR (a : Nat) (K N : Value) : List Nat := a :: (obl K.ownBlock ++ obl N.ownBlock)
theorem mem_fpR {a x : Nat} {K N : Value} : x ∈ fpR a K N ↔ x = a ∨ K.ownBlock = some x ∨ N.ownBlock = some x := by
  simp [fpR, mem_obl]
theorem RO.upd {S : List Nat} {w w' : World} {a : Nat} {K N : Value} {es : List E} (h : RO w a K N es) (u : Upd S w w') (hn : ∀ x ∈ fpR a K N, x ∉ S) : RO w' a K N es :=
  ⟨h.tree.upd u (hn a (by simp [fpR])), own_upd h.key u (fun x hx => hn x (mem_fpR.2 (.inr (.inl hx)))), own_upd h.num u (fun x hx => hn x (mem_fpR.2 (.inr (.inr hx))))⟩
theorem RO.below {w w' : World} {a : Nat} {K N : Value} {es : List E} (h : RO w a K N es) (z : Below w.heap.size w w') : RO w' a K N es := h.upd (Upd.of_below [] z) (by simp)
theorem RO.lt {w : World} {a : Nat} {K N : Value} {es : List E} (h : RO w a K N es) : ∀ x ∈ fpR a K N, x < w.heap.size := fun x hx => by
  rcases mem_fpR.1 hx with rfl | hx | hx
  · exact h.tree.lt
  · exact row_lt h.key hx
  · exact row_lt h.num hx
theorem row_kb {w : World} {e n : Nat} {v : Value} {xs : List Value} (h : w.ownsRow 0 e 1 v n xs) : ∃ kb c, v = .slice (kb.map fun b => ⟨b, 0, none⟩) n c ∧ v.ownBlock = kb ∧ n ≤ c ∧ c ≤ maxLen ∧ (kb = none → c = 0) ∧ ∀ g, kb = some g → ∃ sp, Blk w g e (xs ++ sp) ∧ (xs ++ sp).length = c := by
  obtain ⟨a, c, rfl, hc, h2⟩ := row_val h
  rcases h2 with ⟨rfl, rfl, rfl⟩ | ⟨g, sp, rfl, hb, hl, hm⟩
  · exact ⟨none, 0, rfl, rfl, Nat.le_refl _, by unfold maxLen; omega, fun _ => rfl, fun g q => by cases q⟩
  · exact ⟨some g, c, rfl, rfl, hc, hm, (fun q => by cases q), fun g' q => by cases q; exact ⟨sp, hb, by simpa using hl⟩⟩
theorem RO.rt {w : World} {a : Nat} {K N : Value} {es : List E} (h : RO w a K N es) : ∃ kb nb ck cn, RT w a kb nb ck cn es := by
  obtain ⟨kb, ck, hK, _, _, _, _, hk⟩ := row_kb h.key
  obtain ⟨nb, cn, hN, _, _, _, _, hn⟩ := row_kb h.num
  subst hK hN
  refine ⟨kb, nb, ck, cn, h.tree.lt, h.tree.cell 0, h.tree.cell 1, fun i e he => ?_, fun i e he => ?_⟩
  · have h0 : (strs es)[i]? = some (.string e.1) := by simp [strs, he]
    have hi := (List.getElem?_eq_some_iff.1 h0).1
    cases kb with
    | none =>
      rcases h.key.2 with ⟨_, q⟩ | ⟨g, cap, cur, q, _⟩
      · rw [strs_len] at hi; omega
      · cases q
    | some g =>
      obtain ⟨sp, hb, _⟩ := hk g rfl
      refine ⟨g, rfl, hb.lt, ?_⟩
      rw [hb.cell, List.getElem?_append_left hi, h0]
  · have h0 : (ints es)[i]? = some (.int .i64 e.2) := by simp [ints, he]
    have hi := (List.getElem?_eq_some_iff.1 h0).1
    cases nb with
    | none =>
      rcases h.num.2 with ⟨_, q⟩ | ⟨g, cap, cur, q, _⟩
      · rw [ints_len] at hi; omega
      · cases q
    | some g =>
      obtain ⟨sp, hb, _⟩ := hn g rfl
      refine ⟨g, rfl, hb.lt, ?_⟩
      rw [hb.cell, List.getElem?_append_left hi, h0]
theorem rspot_O {w : World} {a : Nat} {K N : Value} {es : List E} (key : ByteArray) (h : RO w a K N es) (hs : Srt (ksL es)) (hn : es.length < 1000000000) (old : Int) (is : Bool) (hG : GetL es key old is) :
    Calls Try.prog 49 #[.pointer (some ⟨a, 0, none⟩), .string key] w fun e w' => e = .returned (.tuple #[.int .i64 (lb (ksL es) key : Int), .bool is]) ∧ Hid (Below w.heap.size w w') := by
  obtain ⟨kb, nb, ck, cn, h⟩ := h.rt
  exact rspot_any key w h hs hn is hG.mem
theorem rget_O {w : World} {a : Nat} {K N : Value} {es : List E} (key : ByteArray) (h : RO w a K N es) (hs : Srt (ksL es)) (hn : es.length < 1000000000) (old : Int) (is : Bool) (hG : GetL es key old is) :
    Calls Try.prog 31 #[.pointer (some ⟨a, 0, none⟩), .string key] w fun e w' => e = .returned (.tuple #[.int .i64 old, .bool is]) ∧ Hid (Below w.heap.size w w') := by
  obtain ⟨kb, nb, ck, cn, h⟩ := h.rt
  rcases hG with ⟨rfl, hG⟩ | ⟨rfl, hG, rfl⟩
  · exact rget_hit key w h hs hn (key, old) hG rfl
  · exact rget_miss key w h hs hn hG
theorem rends_O {w : World} {a : Nat} {K N : Value} {es : List E} (fr to : ByteArray) (h : RO w a K N es) (hs : Srt (ksL es)) (hn : es.length < 1000000000) :
    Calls Try.prog 33 #[.pointer (some ⟨a, 0, none⟩), .string fr, .string to] w fun e w' => e = .returned (.tuple #[.int .i64 (lb (ksL es) fr : Int), .int .i64 (max (lb (ksL es) fr) (ub es to) : Nat)]) ∧ Hid (Below w.heap.size w w') := by
  obtain ⟨kb, nb, ck, cn, h⟩ := h.rt
  exact ends_any fr to w h hs hn
/-- The document's tree behind a change. -/
def RC (w w' : World) (a : Nat) (K N : Value) (es' : List E) : Prop :=
  ∃ K' N', RO w' a K' N' es' ∧ Upd (fpR a K N) w w' ∧ ∀ x ∈ fpR a K' N', x ∈ fpR a K N ∨ w.heap.size ≤ x
set_option maxRecDepth 8000 in
set_option maxHeartbeats 1000000 in
theorem rput_hit {w : World} {a : Nat} {K N : Value} {es : List E} (key : ByteArray) (x old : Int) (h : RO w a K N es) (hs : Srt (ksL es)) (hn : es.length < 100000) (hG : es[lb (ksL es) key]? = some (key, old)) :
    Calls Try.prog 30 #[.pointer (some ⟨a, 0, none⟩), .string key, .int .i64 x] w fun e w' => e = .returned (.tuple #[.int .i64 old, .bool true]) ∧ Hid (RC w w' a K N (putL es key x true)) := by
  have KC := rspot_O key h hs (by omega) old true (.inl ⟨rfl, hG⟩)
  have HO : Hid (RO w a K N es) := h
  have HE : Hid (putL es key x true = es.set (lb (ksL es) key) (key, x)) := rfl
  rw [HE.out]
  clear HE
  generalize lb (ksL es) key = i at *
  have hi : i < es.length := (List.getElem?_eq_some_iff.1 hG).1
  have HG : Hid (es[i]? = some (key, old)) := hG
  clear h hs hG
  go_enter Try.func30, Try.ntmps30
  go_wp2_with fail
  refine KC.mono ?_
  clear KC
  rintro e w1 ⟨rfl, H⟩
  have HO1 : Hid (RO w1 a K N es) := HO.out.below H.out
  obtain ⟨nb, cn, hN, hNb, hnc, hm, hz, hb⟩ := row_kb HO1.out.num
  cases nb with
  | none =>
    have := hz rfl
    omega
  | some g =>
    obtain ⟨sp, hb, hl⟩ := hb g rfl
    simp only [Option.map_some] at hN
    have HB : Hid (Blk w1 g 3 (ints es ++ sp)) := hb
    have HC : Hid (N = .slice (some ⟨g, 0, none⟩) es.length cn ∧ N.ownBlock = some g ∧ es.length ≤ cn ∧ cn ≤ maxLen ∧ (ints es ++ sp).length = cn) := ⟨hN, hNb, hnc, hm, hl⟩
    have c1 : w1.cell? ⟨a, 1, none⟩ = some (.slice (some ⟨g, 0, none⟩) es.length cn) := by rw [← hN]; exact HO1.out.tree.cell 1
    have c2 : w1.cell? ⟨g, i, none⟩ = some (.int .i64 old) := by
      rw [hb.cell, List.getElem?_append_left (by rw [ints_len]; exact hi)]
      simp [ints, HG.out]
    have hx1 : ¬ ((i : Int) < 0) := by omega
    have hx2 : ¬ ((es.length : Int) ≤ (i : Int)) := by omega
    clear hN hNb hnc hm hz hb hl
    go_wp2_with (refine st_one rfl 3 (.tmp 31) (.tmp 30) rfl g i 3 _ (.int .i64 x) rfl rfl rfl rfl (by rw [List.length_append, ints_len]; omega) HB.out s3' ?_)
    intro w2 B2 G2
    have HF : Hid (RC w w2 a K N (es.set i (key, x))) := by
      obtain ⟨h1, h2, h3, h4, h5⟩ := HC.out
      have hu : Upd (fpR a K N) w w2 := ((Upd.of_below _ H.out).trans (Upd.of_by G2) (fun y hy _ => by rw [List.mem_singleton.1 hy]; exact mem_fpR.2 (.inr (.inr h2))))
      have hag : a ≠ g := fun q => tag_ne HO1.out.num HO1.out.tree (by decide) (q ▸ h2)
      have hkg : ∀ y, K.ownBlock = some y → y ∉ [g] := fun y hy q => by
        rw [List.mem_singleton] at q
        subst q
        exact tag_ne2 HO1.out.key HO1.out.num (by decide) hy h2
      refine ⟨K, N, ⟨HO1.out.tree.upd (Upd.of_by G2) (by simp [hag]), ?_, ?_⟩, hu, fun y hy => .inl hy⟩
      · have e : strs (es.set i (key, x)) = strs es := by
          simp only [strs, List.map_set]
          apply List.ext_getElem?
          intro j
          rw [List.getElem?_set]
          split
          · rename_i e
            subst e
            have e1 := (List.getElem?_eq_some_iff.1 HG.out).2
            simp [hi, e1]
          · rfl
        rw [List.length_set, e]
        exact own_upd HO1.out.key (Upd.of_by G2) hkg
      · rw [List.length_set, h1]
        refine val_row (sp := sp) ?_ h3 (by rw [List.length_append, ints_len, List.length_set, Nat.mul_one]; rw [← h5, List.length_append, ints_len]) h4 (by rw [ints_len, List.length_set, Nat.mul_one])
        have e : ints (es.set i (key, x)) ++ sp = (ints es ++ sp).set i (.int .i64 x) := by
          rw [List.set_append_left _ _ (by rw [ints_len]; exact hi)]
          simp [ints, List.map_set]
        rw [e]
        exact B2
    clear B2 G2 HB HC HO HO1 H c1 c2
    go_wp2
    go_ret2
    exact ⟨rfl, HF.out⟩
end Go.Proofs.Yteokjfpppmnebaa
namespace Go.Proofs.Yteokjfpppmnebaa
open Go.RowKit
set_option linter.unusedVariables false
set_option linter.unusedSimpArgs false
/-- The document's tree with whatever in its rows. -/
structure R2 (w : World) (a : Nat) (K N : Value) (ks ns : List Value) : Prop where
  tree : Blk w a 31 [K, N]
  key : w.ownsRow 0 9 1 K ks.length ks
  num : w.ownsRow 0 3 1 N ns.length ns
theorem RO.r2 {w : World} {a : Nat} {K N : Value} {es : List E} (h : RO w a K N es) : R2 w a K N (strs es) (ints es) := ⟨h.tree, by rw [strs_len]; exact h.key, by rw [ints_len]; exact h.num⟩
theorem R2.ro {w : World} {a : Nat} {K N : Value} {es : List E} (h : R2 w a K N (strs es) (ints es)) : RO w a K N es := ⟨h.tree, by have := h.key; rw [strs_len] at this; exact this, by have := h.num; rw [ints_len] at this; exact this⟩
theorem R2.upd {S : List Nat} {w w' : World} {a : Nat} {K N : Value} {ks ns : List Value} (h : R2 w a K N ks ns) (u : Upd S w w') (hn : ∀ x ∈ fpR a K N, x ∉ S) : R2 w' a K N ks ns :=
  ⟨h.tree.upd u (hn a (by simp [fpR])), own_upd h.key u (fun x hx => hn x (mem_fpR.2 (.inr (.inl hx)))), own_upd h.num u (fun x hx => hn x (mem_fpR.2 (.inr (.inr hx))))⟩
theorem R2.below {w w' : World} {a : Nat} {K N : Value} {ks ns : List Value} (h : R2 w a K N ks ns) (z : Below w.heap.size w w') : R2 w' a K N ks ns := h.upd (Upd.of_below [] z) (by simp)
/-- From one footprint to another one. -/
structure Rg (w w' : World) (F F' : List Nat) : Prop where
  upd : Upd F w w'
  fp : ∀ x ∈ F', x ∈ F ∨ w.heap.size ≤ x
theorem Rg.refl (w : World) (F : List Nat) : Rg w w F F := ⟨Upd.refl _ _, fun _ h => .inl h⟩
theorem Rg.trans {w w1 w2 : World} {F F1 F2 : List Nat} (h : Rg w w1 F F1) (k : Rg w1 w2 F1 F2) : Rg w w2 F F2 :=
  ⟨h.upd.trans k.upd (fun x hx hl => (h.fp x hx).elim id (fun q => by omega)), fun x hx => by
    rcases k.fp x hx with q | q
    · exact h.fp x q
    · exact .inr (Nat.le_trans h.upd.size q)⟩
theorem Rg.below {w w' : World} {F : List Nat} (z : Below w.heap.size w w') : Rg w w' F F := ⟨Upd.of_below _ z, fun _ h => .inl h⟩
theorem Rg.by {w w' : World} {F : List Nat} {b : Nat} (g : w.grownBy w' (some b)) (hb : b ∈ F) : Rg w w' F F := ⟨(Upd.of_by g).mono (fun x hx _ => by rw [List.mem_singleton.1 hx]; exact hb), fun _ h => .inl h⟩
theorem R2.ne {w : World} {a : Nat} {K N : Value} {ks ns : List Value} (h : R2 w a K N ks ns) : (∀ y, K.ownBlock = some y → y ≠ a) ∧ (∀ y, N.ownBlock = some y → y ≠ a) ∧ (∀ y, K.ownBlock = some y → N.ownBlock ≠ some y) :=
  ⟨fun y hy q => tag_ne h.key h.tree (by decide) (q ▸ hy), fun y hy q => tag_ne h.num h.tree (by decide) (q ▸ hy), fun y hy => tag_ne2 h.key h.num (by decide) hy⟩
theorem row_form {w : World} {e n : Nat} {v : Value} {xs : List Value} (h : w.ownsRow 0 e 1 v n xs) (hn : 0 < n) : ∃ g c sp, v = .slice (some ⟨g, 0, none⟩) n c ∧ Blk w g e (xs ++ sp) ∧ n ≤ c ∧ c ≤ maxLen ∧ xs.length + sp.length = c ∧ xs.length = n := by
  obtain ⟨kb, c, h1, h2, h3, h4, h5, h6⟩ := row_kb h
  cases kb with
  | none => have := h5 rfl; omega
  | some g =>
    obtain ⟨sp, q1, q2⟩ := h6 g rfl
    exact ⟨g, c, sp, h1, q1, h3, h4, by rw [List.length_append] at q2; exact q2, by have := h.1; omega⟩
theorem lit_news {w : World} {v : Value} {t : TypeId} : ∀ ad, some (⟨w.heap.size, 0, none⟩ : Addr) = some ad → ∀ j u, [v][j]? = some u → (w.alloc (.cells #[v] t)).cell? (ad.add j) = some u := fun ad e j u hu => by
  injection e with e
  subst e
  cases j with
  | zero =>
    injection hu with hu
    subst hu
    exact cell_one_new w _ _ 0 _ rfl
  | succ j => cases hu
theorem shift_mid (X sp : List Value) (z : Value) (i n : Nat) (hn : X.length = n) (hi : i ≤ n) : ∃ v, ((X ++ [z]) ++ sp).take (i + 1) ++ (X.drop i ++ ((X ++ [z]) ++ sp).drop (i + 1 + (n - i))) = (X.take i ++ v :: X.drop i) ++ sp := by
  subst hn
  have h2 : ((X ++ [z]) ++ sp).drop (i + 1 + (X.length - i)) = sp := by
    have : i + 1 + (X.length - i) = (X ++ [z]).length := by simp; omega
    rw [this, List.drop_left]
  have h1 : ∃ v, ((X ++ [z]) ++ sp).take (i + 1) = X.take i ++ [v] := by
    by_cases h : i < X.length
    · refine ⟨X[i], ?_⟩
      rw [List.append_assoc, List.take_append_of_le_length (by omega), List.take_succ_eq_append_getElem h]
    · obtain rfl : i = X.length := by omega
      refine ⟨z, ?_⟩
      rw [List.take_length, show X.length + 1 = (X ++ [z]).length by simp, List.take_left]
  obtain ⟨v, h1⟩ := h1
  refine ⟨v, ?_⟩
  rw [h1, h2]
  simp
theorem shift_src (X sp : List Value) (z : Value) (i n : Nat) (hn : X.length = n) (hi : i ≤ n) : (((X ++ [z]) ++ sp).drop i).take (n - i) = X.drop i := by
  subst hn
  rw [List.append_assoc, List.drop_append_of_le_length hi, List.take_append_of_le_length (by simp)]
  exact List.take_of_length_le (by simp)
theorem set_mid1 (X Y : List Value) (v u : Value) (i : Nat) (hi : X.length = i) : (X ++ v :: Y).set i u = X ++ u :: Y := by
  subst hi
  simp
/-- A row that has become longer. -/
theorem R2.pushK {w w1 w2 w3 : World} {a : Nat} {K N V v : Value} {ks ns : List Value} (h : R2 w a K N ks ns) (g1 : w.grownBy w1 none) (g2 : w1.grownBy w2 K.ownBlock) (ho : w2.ownsRow 0 9 1 V (ks.length + 1) (ks ++ [v])) (ha : V.ownBlock = K.ownBlock ∨ V.ownBlock = some w1.heap.size) (hb : Blk w3 a 31 [V, N]) (g3 : w2.grownBy w3 (some a)) :
    R2 w3 a V N (ks ++ [v]) ns ∧ Rg w w3 (fpR a K N) (fpR a V N) := by
  obtain ⟨n1, n2, n3⟩ := h.ne
  have h1 := h.upd (Upd.of_none [] g1) (by simp)
  have hV : ∀ y, V.ownBlock = some y → y ≠ a := fun y hy => by
    rcases ha with q | q
    · exact n1 y (q ▸ hy)
    · have := h1.tree.lt
      rw [q] at hy
      injection hy with hy
      omega
  have u2 : Upd (fpR a K N) w1 w2 := ⟨g2.os, g2.tape, g2.output, g2.size, fun k hk hn => g2.block k hk (fun e => hn (mem_fpR.2 (.inr (.inl e.symm))))⟩
  have uo : Upd (obl K.ownBlock) w1 w2 := ⟨g2.os, g2.tape, g2.output, g2.size, fun k hk hn => g2.block k hk (fun e => hn (mem_obl.2 e.symm))⟩
  have u3 : Upd (fpR a K N) w2 w3 := (Upd.of_by g3).mono (fun x hx _ => by rw [List.mem_singleton.1 hx]; simp [fpR])
  have ho3 := own_upd h1.num uo (fun x hx hq => n3 x (mem_obl.1 hq) hx)
  have ho3 := own_upd ho3 (Upd.of_by g3) (fun x hx hq => n2 x hx (List.mem_singleton.1 hq))
  have ho2 := own_upd ho (Upd.of_by g3) (fun x hx hq => hV x hx (List.mem_singleton.1 hq))
  refine ⟨⟨hb, ?_, ho3⟩, ⟨((Upd.of_none (fpR a K N) g1).trans u2 (fun x hx _ => hx)).trans u3 (fun x hx _ => hx), fun x hx => ?_⟩⟩
  · rw [List.length_append]; exact ho2
  · rcases mem_fpR.1 hx with rfl | hx | hx
    · exact .inl (by simp [fpR])
    · rcases ha with q | q
      · exact .inl (mem_fpR.2 (.inr (.inl (q ▸ hx))))
      · rw [q] at hx
        injection hx with hx
        exact .inr (by have := g1.size; omega)
    · exact .inl (mem_fpR.2 (.inr (.inr hx)))
/-- A row's cells are others. -/
theorem R2.setK {w w' : World} {a g c : Nat} {K N : Value} {ks ns ks' sp' : List Value} (h : R2 w a K N ks ns) (hv : K = .slice (some ⟨g, 0, none⟩) ks.length c) (hc : ks.length ≤ c) (hm : c ≤ maxLen) (G : w.grownBy w' (some g)) (B1 : Blk w' g 9 (ks' ++ sp')) (hl : ks'.length = ks.length) (hl2 : ks'.length + sp'.length = c) :
    R2 w' a K N ks' ns ∧ Rg w w' (fpR a K N) (fpR a K N) := by
  obtain ⟨n1, n2, n3⟩ := h.ne
  have hg : K.ownBlock = some g := by rw [hv]; rfl
  refine ⟨⟨h.tree.upd (Upd.of_by G) (fun q => n1 g hg (List.mem_singleton.1 q).symm), ?_, own_upd h.num (Upd.of_by G) (fun x hx hq => n3 g hg (by rw [← List.mem_singleton.1 hq]; exact hx))⟩, Rg.by G (mem_fpR.2 (.inr (.inl hg)))⟩
  rw [hv, hl]
  refine val_row (sp := sp') B1 hc (by rw [List.length_append, Nat.mul_one]; exact hl2) hm (by rw [Nat.mul_one]; exact hl)
/-- A row that has become longer. -/
theorem R2.pushN {w w1 w2 w3 : World} {a : Nat} {K N V v : Value} {ks ns : List Value} (h : R2 w a K N ks ns) (g1 : w.grownBy w1 none) (g2 : w1.grownBy w2 N.ownBlock) (ho : w2.ownsRow 0 3 1 V (ns.length + 1) (ns ++ [v])) (ha : V.ownBlock = N.ownBlock ∨ V.ownBlock = some w1.heap.size) (hb : Blk w3 a 31 [K, V]) (g3 : w2.grownBy w3 (some a)) :
    R2 w3 a K V ks (ns ++ [v]) ∧ Rg w w3 (fpR a K N) (fpR a K V) := by
  obtain ⟨n1, n2, n3⟩ := h.ne
  have h1 := h.upd (Upd.of_none [] g1) (by simp)
  have hV : ∀ y, V.ownBlock = some y → y ≠ a := fun y hy => by
    rcases ha with q | q
    · exact n2 y (q ▸ hy)
    · have := h1.tree.lt
      rw [q] at hy
      injection hy with hy
      omega
  have u2 : Upd (fpR a K N) w1 w2 := ⟨g2.os, g2.tape, g2.output, g2.size, fun k hk hn => g2.block k hk (fun e => hn (mem_fpR.2 (.inr (.inr e.symm))))⟩
  have uo : Upd (obl N.ownBlock) w1 w2 := ⟨g2.os, g2.tape, g2.output, g2.size, fun k hk hn => g2.block k hk (fun e => hn (mem_obl.2 e.symm))⟩
  have u3 : Upd (fpR a K N) w2 w3 := (Upd.of_by g3).mono (fun x hx _ => by rw [List.mem_singleton.1 hx]; simp [fpR])
  have ho3 := own_upd h1.key uo (fun x hx hq => n3 x hx (mem_obl.1 hq))
  have ho3 := own_upd ho3 (Upd.of_by g3) (fun x hx hq => n1 x hx (List.mem_singleton.1 hq))
  have ho2 := own_upd ho (Upd.of_by g3) (fun x hx hq => hV x hx (List.mem_singleton.1 hq))
  refine ⟨⟨hb, ho3, ?_⟩, ⟨((Upd.of_none (fpR a K N) g1).trans u2 (fun x hx _ => hx)).trans u3 (fun x hx _ => hx), fun x hx => ?_⟩⟩
  · rw [List.length_append]; exact ho2
  · rcases mem_fpR.1 hx with rfl | hx | hx
    · exact .inl (by simp [fpR])
    · exact .inl (mem_fpR.2 (.inr (.inl hx)))
    · rcases ha with q | q
      · exact .inl (mem_fpR.2 (.inr (.inr (q ▸ hx))))
      · rw [q] at hx
        injection hx with hx
        exact .inr (by have := g1.size; omega)
/-- A row's cells are others. -/
theorem R2.setN {w w' : World} {a g c : Nat} {K N : Value} {ks ns ks' sp' : List Value} (h : R2 w a K N ks ns) (hv : N = .slice (some ⟨g, 0, none⟩) ns.length c) (hc : ns.length ≤ c) (hm : c ≤ maxLen) (G : w.grownBy w' (some g)) (B1 : Blk w' g 3 (ks' ++ sp')) (hl : ks'.length = ns.length) (hl2 : ks'.length + sp'.length = c) :
    R2 w' a K N ks ks' ∧ Rg w w' (fpR a K N) (fpR a K N) := by
  obtain ⟨n1, n2, n3⟩ := h.ne
  have hg : N.ownBlock = some g := by rw [hv]; rfl
  refine ⟨⟨h.tree.upd (Upd.of_by G) (fun q => n2 g hg (List.mem_singleton.1 q).symm), own_upd h.key (Upd.of_by G) (fun x hx hq => n3 x hx (by rw [List.mem_singleton.1 hq]; exact hg)), ?_⟩, Rg.by G (mem_fpR.2 (.inr (.inr hg)))⟩
  rw [hv, hl]
  refine val_row (sp := sp') B1 hc (by rw [List.length_append, Nat.mul_one]; exact hl2) hm (by rw [Nat.mul_one]; exact hl)

theorem R2.keyB {w : World} {a g n c : Nat} {K N : Value} {ks ns : List Value} (h : R2 w a K N ks ns) (hv : K = .slice (some ⟨g, 0, none⟩) n c) : ∃ sp, Blk w g 9 (ks ++ sp) ∧ ks.length ≤ c ∧ c ≤ maxLen ∧ ks.length + sp.length = c := by
  obtain ⟨kb, c', h1, h2, h3, h4, h5, h6⟩ := row_kb h.key
  rw [hv] at h1 h2
  injection h1 with _ _ hc
  subst hc
  cases h2
  obtain ⟨sp, q1, q2⟩ := h6 g rfl
  exact ⟨sp, q1, h3, h4, by rw [List.length_append] at q2; exact q2⟩
theorem R2.numB {w : World} {a g n c : Nat} {K N : Value} {ks ns : List Value} (h : R2 w a K N ks ns) (hv : N = .slice (some ⟨g, 0, none⟩) n c) : ∃ sp, Blk w g 3 (ns ++ sp) ∧ ns.length ≤ c ∧ c ≤ maxLen ∧ ns.length + sp.length = c := by
  obtain ⟨kb, c', h1, h2, h3, h4, h5, h6⟩ := row_kb h.num
  rw [hv] at h1 h2
  injection h1 with _ _ hc
  subst hc
  cases h2
  obtain ⟨sp, q1, q2⟩ := h6 g rfl
  exact ⟨sp, q1, h3, h4, by rw [List.length_append] at q2; exact q2⟩

theorem q_slv {C : World → Prop} {a : Act} {o : Oper} {K : Act → Prop} (T : TypeId) (hT : T = 28 ∨ T = 29) (x : Operand) (ho : o.op = .load T x) (b k : Nat) (hx : a.eval x = .pointer (some ⟨b, k, none⟩)) (y : Option Addr) (n c : Nat) (hS : ∀ w, C w → w.cell? ⟨b, k, none⟩ = some (.slice y n c)) (hk : K (a.put o.dst (.slice y n c))) : o.quiet Try.prog a C K :=
  ⟨_, fun w hw => by
    have h := hS w hw
    unfold Oper.quietAt execOp
    rcases hT with rfl | rfl <;> (simp only [ho, hx]; go_simp), hk⟩
theorem iStr : (Try.prog.info? 9).map (fun i => (i.zero.map (·.cells.size), i.size, decide (i.bytes ≤ 1000))) = some (some 1, 1, true) := by kernel_rfl
theorem iInt : (Try.prog.info? 3).map (fun i => (i.zero.map (·.cells.size), i.size, decide (i.bytes ≤ 1000))) = some (some 1, 1, true) := by kernel_rfl
theorem sStrs : (Try.prog.info? 28).map (·.size) = some 1 := by kernel_rfl
theorem sInts : (Try.prog.info? 29).map (·.size) = some 1 := by kernel_rfl
set_option maxRecDepth 8000 in
set_option maxHeartbeats 1000000 in
theorem rput_miss {w : World} {a : Nat} {K N : Value} {es : List E} (key : ByteArray) (x : Int) (h : RO w a K N es) (hs : Srt (ksL es)) (hn : es.length < 50000) (hG : key ∉ ksL es) :
    Calls Try.prog 30 #[.pointer (some ⟨a, 0, none⟩), .string key, .int .i64 x] w fun e w' => e = .returned (.tuple #[.int .i64 0, .bool false]) ∧ Hid (RC w w' a K N (putL es key x false)) := by
  have KC := rspot_O key h hs (by omega) 0 false (.inr ⟨rfl, hG, rfl⟩)
  have hle : lb (ksL es) key ≤ es.length := by have := lb_le (ksL es) key; simpa [ksL] using this
  obtain ⟨ks, HKS⟩ : ∃ ks, Hid (strs es = ks) := ⟨_, rfl⟩
  obtain ⟨ns, HNS⟩ : ∃ ns, Hid (ints es = ns) := ⟨_, rfl⟩
  have HO : Hid (∀ W, Below w.heap.size w W → R2 W a K N ks ns) := fun W z => by have := (h.below z).r2; rw [HKS.out, HNS.out] at this; exact this
  have HOK : Hid (∀ v ∈ ks, v.oneCell' = true) := by rw [← HKS.out]; exact strs_one
  have HON : Hid (∀ v ∈ ns, v.oneCell' = true) := by rw [← HNS.out]; exact ints_one
  have HEND : Hid (∀ W K' N', R2 W a K' N' (ks.take (lb (ksL es) key) ++ .string key :: ks.drop (lb (ksL es) key)) (ns.take (lb (ksL es) key) ++ .int .i64 x :: ns.drop (lb (ksL es) key)) → RO W a K' N' (putL es key x false)) := fun W K' N' r => by
    refine R2.ro ?_
    have e1 : strs (putL es key x false) = ks.take (lb (ksL es) key) ++ .string key :: ks.drop (lb (ksL es) key) := by rw [← HKS.out]; simp [putL, strs, List.map_take, List.map_drop]
    have e2 : ints (putL es key x false) = ns.take (lb (ksL es) key) ++ .int .i64 x :: ns.drop (lb (ksL es) key) := by rw [← HNS.out]; simp [putL, ints, List.map_take, List.map_drop]
    rw [e1, e2]; exact r
  obtain ⟨n, hnn⟩ : ∃ n, es.length = n := ⟨_, rfl⟩
  have HLK : Hid (ks.length = n) := by rw [← HKS.out, ← hnn]; exact strs_len es
  have HLN : Hid (ns.length = n) := by rw [← HNS.out, ← hnn]; exact ints_len es
  obtain ⟨M, HM⟩ : ∃ M, Hid (putL es key x false = M) := ⟨_, rfl⟩
  rw [HM.out] at HEND ⊢
  generalize lb (ksL es) key = i at *
  rw [hnn] at hn hle
  clear h hs hG HKS HNS HM hnn
  go_enter Try.func30, Try.ntmps30
  go_wp2_with fail
  refine KC.mono ?_
  clear KC
  rintro e w1 ⟨rfl, H⟩
  have HR1 : Hid (R2 w1 a K N ks ns) := HO.out w1 H.out
  have HRG : Hid (Rg w w1 (fpR a K N) (fpR a K N)) := Rg.below H.out
  clear H HO
  have c0 : w1.cell? ⟨a, 0, none⟩ = some K := HR1.out.tree.cell 0
  obtain ⟨kb, ck, hK, hkr⟩ := row_kb HR1.out.key
  clear hkr
  have HKV : Hid (K = .slice (kb.map fun b => ⟨b, 0, none⟩) n ck) := by rw [← HLK.out]; exact hK
  rw [HKV.out] at c0
  clear hK
  go_wp2_with (refine wl_app rfl (.tmp 37) (.tmp 38) 28 9 1 rfl (by decide) Try.underlying28 iStr K n ks (by rw [HKV.out]; rfl) (by have := HR1.out.key; rw [HLK.out] at this; exact this.alloc _) (some ⟨w1.heap.size, 0, none⟩) 1 1 rfl (fun q => by cases q) [.string ⟨#[]⟩] rfl lit_news (by simp [Value.oneCell']) (by omega) ?_)
  intro K1 w3 o3 g3 a3
  have G2 := World.grownBy_alloc w1 (.cells #[.string ⟨#[]⟩] 9) none
  have HO3 : Hid (w3.ownsRow 0 9 1 K1 (n + 1) (ks ++ [.string ⟨#[]⟩])) := o3
  have HA3 : Hid (K1.ownBlock = K.ownBlock ∨ K1.ownBlock = some (w1.alloc (.cells #[.string ⟨#[]⟩] 9)).heap.size) := by
    show _ ∨ _
    simpa using a3
  have HB3 : Hid (Blk w3 a 31 [K, N]) := by
    have h1 := HR1.out.tree.kept G2 (by simp)
    refine h1.kept g3 (fun q => HR1.out.ne.1 a q.symm rfl)
  have HG3 : Hid (w1.grownBy (w1.alloc (.cells #[.string ⟨#[]⟩] 9)) none ∧ (w1.alloc (.cells #[.string ⟨#[]⟩] 9)).grownBy w3 K.ownBlock) := ⟨G2, g3⟩
  obtain ⟨gk, ck, spk, hKV1, hkr⟩ := row_form o3 (by omega)
  clear hkr
  have HK1 : Hid (K1 = .slice (some ⟨gk, 0, none⟩) (n + 1) ck) := hKV1
  clear o3 a3 g3 G2 c0 hKV1
  rw [HK1.out]
  go_wp2_with (refine st_one rfl 28 (.tmp 41) (.tmp 39) rfl a 0 31 _ (.slice (some ⟨gk, 0, none⟩) (n + 1) ck) rfl rfl rfl rfl (by show 0 < 2; decide) HB3.out sStrs ?_)
  intro w4 B4 G4
  have HR4 : Hid (R2 w4 a K1 N (ks ++ [.string ⟨#[]⟩]) ns ∧ Rg w w4 (fpR a K N) (fpR a K1 N)) := by
    have B4 : Blk w4 a 31 [K1, N] := by rw [HK1.out]; exact B4
    obtain ⟨q1, q2⟩ := R2.pushK HR1.out HG3.out.1 HG3.out.2 (by rw [HLK.out]; exact HO3.out) HA3.out B4 G4
    exact ⟨q1, HRG.out.trans q2⟩
  clear B4 G4 HR1 HG3 HO3 HA3 HRG HB3 HKV
  -- the numbers
  have c0 : w4.cell? ⟨a, 1, none⟩ = some N := HR4.out.1.tree.cell 1
  obtain ⟨nb, cn, hN, hkr⟩ := row_kb HR4.out.1.num
  clear hkr
  have HNV : Hid (N = .slice (nb.map fun b => ⟨b, 0, none⟩) n cn) := by rw [← HLN.out]; exact hN
  rw [HNV.out] at c0
  clear hN
  go_wp2_with (refine wl_app rfl (.tmp 46) (.tmp 47) 29 3 1 rfl (by decide) Try.underlying29 iInt N n ns (by rw [HNV.out]; rfl) (by have := HR4.out.1.num; rw [HLN.out] at this; exact this.alloc _) (some ⟨w4.heap.size, 0, none⟩) 1 1 rfl (fun q => by cases q) [.int .i64 0] rfl lit_news (by simp [Value.oneCell']) (by omega) ?_)
  intro N1 w6 o3 g3 a3
  have G2 := World.grownBy_alloc w4 (.cells #[.int .i64 0] 3) none
  have HO3 : Hid (w6.ownsRow 0 3 1 N1 (n + 1) (ns ++ [.int .i64 0])) := o3
  have HA3 : Hid (N1.ownBlock = N.ownBlock ∨ N1.ownBlock = some (w4.alloc (.cells #[.int .i64 0] 3)).heap.size) := by
    show _ ∨ _
    simpa using a3
  have HB3 : Hid (Blk w6 a 31 [K1, N]) := by
    have h1 := HR4.out.1.tree.kept G2 (by simp)
    refine h1.kept g3 (fun q => HR4.out.1.ne.2.1 a q.symm rfl)
  have HG3 : Hid (w4.grownBy (w4.alloc (.cells #[.int .i64 0] 3)) none ∧ (w4.alloc (.cells #[.int .i64 0] 3)).grownBy w6 N.ownBlock) := ⟨G2, g3⟩
  obtain ⟨gn, cn, spn, hNV1, hkr⟩ := row_form o3 (by omega)
  clear hkr
  have HN1 : Hid (N1 = .slice (some ⟨gn, 0, none⟩) (n + 1) cn) := hNV1
  clear o3 a3 g3 G2 c0 hNV1
  rw [HN1.out]
  go_wp2_with (refine st_one rfl 29 (.tmp 50) (.tmp 48) rfl a 1 31 _ (.slice (some ⟨gn, 0, none⟩) (n + 1) cn) rfl rfl rfl rfl (by show 1 < 2; decide) HB3.out sInts ?_)
  intro w7 B4 G4
  have HR7 : Hid (R2 w7 a K1 N1 (ks ++ [.string ⟨#[]⟩]) (ns ++ [.int .i64 0]) ∧ Rg w w7 (fpR a K N) (fpR a K1 N1)) := by
    have B4 : Blk w7 a 31 [K1, N1] := by rw [HN1.out]; exact B4
    obtain ⟨q1, q2⟩ := R2.pushN HR4.out.1 HG3.out.1 HG3.out.2 (by rw [HLN.out]; exact HO3.out) HA3.out B4 G4
    exact ⟨q1, HR4.out.2.trans q2⟩
  clear B4 G4 HR4 HG3 HO3 HA3 HB3 HNV
  -- both rows as blocks
  obtain ⟨gK, cK, spK, hKV1, hK2, hK3, hK4, hK5, hK6⟩ := row_form HR7.out.1.key (by simp)
  have hq := HK1.out
  rw [hKV1] at hq
  injection hq with hq1 hq2 hq3
  injection hq1 with hq1
  injection hq1 with hq1
  subst hq1 hq3
  rw [hq2] at hK3
  have HVK : Hid (K1 = .slice (some ⟨gK, 0, none⟩) (n + 1) cK) := HK1.out
  have HFK : Hid (Blk w7 gK 9 ((ks ++ [.string ⟨#[]⟩]) ++ spK) ∧ n + 1 ≤ cK ∧ cK ≤ maxLen ∧ (ks ++ [Value.string ⟨#[]⟩]).length + spK.length = cK) := ⟨hK2, hK3, hK4, hK5⟩
  obtain ⟨gN, cN, spN, hNV1, hN2, hN3, hN4, hN5, hN6⟩ := row_form HR7.out.1.num (by simp)
  have hq := HN1.out
  rw [hNV1] at hq
  injection hq with hq1 hq2' hq3
  injection hq1 with hq1
  injection hq1 with hq1
  subst hq1 hq3
  rw [hq2'] at hN3
  have HVN : Hid (N1 = .slice (some ⟨gN, 0, none⟩) (n + 1) cN) := HN1.out
  have HFN : Hid (Blk w7 gN 3 ((ns ++ [.int .i64 0]) ++ spN) ∧ n + 1 ≤ cN ∧ cN ≤ maxLen ∧ (ns ++ [Value.int .i64 0]).length + spN.length = cN) := ⟨hN2, hN3, hN4, hN5⟩
  clear hKV1 hK2 hK3 hK4 hK5 hK6 hNV1 hN2 hN3 hN4 hN5 hN6 hq2 hq2' HK1 HN1
  -- K: room is made
  have HA : Hid (Blk w7 a 31 [K1, N1]) := HR7.out.1.tree
  obtain ⟨C, hC⟩ : ∃ C : World → Prop, C = fun W => Below w7.heap.size w7 W := ⟨_, rfl⟩
  have F1 : Hid (∀ W, C W → W.cell? ⟨a, 0, none⟩ = some (.slice (some ⟨gK, 0, none⟩) (n + 1) cK)) := fun W hW => by
    rw [hC] at hW
    have := (HA.out.below hW HA.out.lt).cell 0
    rw [← HVK.out]
    exact this
  have CG : Hid (∀ w w', C w → Grow w w' → C w') := fun W W' h1 h2 => by rw [hC] at h1 ⊢; exact h1.trans (h2.mono h1.size)
  have CE : Hid (∀ W, C W → Below w7.heap.size w7 W) := fun W h => by rw [hC] at h; exact h
  have C0 : Hid (C { w7 with drawn := w7.drawn + 1 }) := by rw [hC]; exact Below.drew (Below.refl _ _)
  clear hC
  have FN : Hid (∀ W, C W → Blk W gK 9 ((ks ++ [.string ⟨#[]⟩]) ++ spK)) := fun W hW => HFK.out.1.below (CE.out W hW) HFK.out.1.lt
  go_wp2_with fail
  refine region_grow [13] (by kernel_rfl) ?_
  have hCp : ∀ p : Prop, (∀ W, C W → p) ↔ p := fun p => ⟨fun h => h _ C0.out, fun h _ _ => h⟩
  generalize ({ w7 with drawn := w7.drawn + 1 } : World) = y0 at *
  have e1 : wrap64 ((i : Int) + 1) = ((i + 1 : Nat) : Int) := wrap_small (by omega) (by omega)
  refine segR 1 [0, 1, 2, 3, 4, 5, 6, 7, 8, 9, 10, 11, 12] rfl (by kernel_rfl) whole_blind CG.out C0.out (by kernel_rfl) ?_
  change wpQuiet _ _ _ _ (_ :: _ :: _ :: _ :: _ :: _ :: _ :: _ :: _ :: _ :: _ :: _ :: _ :: []) _
  repeat (first
    | go_big_quiet_skip
    | (go_big_quiet_want
       first
       | (refine q_slv 28 (.inl rfl) (.tmp 53) rfl a 0 rfl _ _ _ F1.out ?_
          simp only [Act.put, List.setIfInBounds_toArray, List.set_cons_zero, List.set_cons_succ]
          go_big_quiet_on)
       | (refine q_slv 28 (.inl rfl) (.tmp 60) rfl a 0 rfl _ _ _ F1.out ?_
          simp only [Act.put, List.setIfInBounds_toArray, List.set_cons_zero, List.set_cons_succ]
          go_big_quiet_on)
       | (refine q_lo1 28 9 (.inl ⟨rfl, rfl⟩) (.tmp 54) (.tmp 56) rfl _ (n + 1) cK (i + 1) rfl (by first | exact congrArg _ e1 | rfl | (simp only [e1]; rfl)) (by omega) HFK.out.2.1 ?_
          simp only [Act.put, List.setIfInBounds_toArray, List.set_cons_zero, List.set_cons_succ]
          go_big_quiet_on)
       | (refine q_lo1 28 9 (.inl ⟨rfl, rfl⟩) (.tmp 61) (.tmp 62) rfl _ (n + 1) cK i rfl rfl (by omega) HFK.out.2.1 ?_
          simp only [Act.put, List.setIfInBounds_toArray, List.set_cons_zero, List.set_cons_succ]
          go_big_quiet_on)
       | (go_big_quiet_op
          go_big_quiet_on)))
  refine wpQuiet_nil ?_
  refine one_ofR 0 rfl [13] (by kernel_rfl) (by simp) fun j hj => ?_
  obtain rfl := List.mem_singleton.1 hj
  refine ⟨_, rfl, (by rfl), fun y1 hy1 K2 hK2 => ?_⟩
  have C1 : Hid (C y1) := CG.out _ _ C0.out hy1
  clear hy1
  have hcX := HFK.out.2.1
  refine wp_mv 28 9 (.inl ⟨rfl, rfl⟩) (.tmp 57) (.tmp 63) rfl gK (i + 1) i (n - i) (lo1 (some ⟨gK, 0, none⟩) cK (i + 1)) (lo1 (some ⟨gK, 0, none⟩) cK i) (n + 1 - (i + 1)) (cK - (i + 1)) (n + 1 - i) (cK - i) rfl rfl (by show _ = min _ _; omega) (fun q => lo1_lt (by omega)) (fun q => lo1_lt (by omega)) ((ks ++ [.string ⟨#[]⟩]) ++ spK) (ks.drop i) (FN.out _ C1.out) (by rw [List.length_drop, HLK.out]) (by have := HFK.out.2.2.2; simp only [List.length_append, HLK.out] at this ⊢; omega) (shift_src _ _ _ _ _ HLK.out (by omega)) (fun v hv => HOK.out v (List.mem_of_mem_drop hv)) ?_
  intro w' B2 G2
  refine hK2 _ _ (.inl (by simp)) ?_
  clear hK2 K2
  simp only [Act.put, List.setIfInBounds_toArray, List.set_cons_zero, List.set_cons_succ]
  refine doneR (by kernel_rfl) fun y2 hy => ?_
  have C1E := CE.out _ C1.out
  have HM : Hid (∃ v, R2 y2 a K1 N1 (ks.take i ++ v :: ks.drop i) (ns ++ [.int .i64 0]) ∧ Blk y2 gK 9 ((ks.take i ++ v :: ks.drop i) ++ spK) ∧ Rg w7 y2 (fpR a K1 N1) (fpR a K1 N1)) := by
    obtain ⟨v', ev⟩ := shift_mid ks spK (.string ⟨#[]⟩) i n HLK.out (by omega)
    have B3 := B2.grow hy
    rw [ev] at B3
    have G3 := G2.trans (by_below hy _)
    have hl := HLK.out
    have hf := HFK.out
    simp only [List.length_append, List.length_cons, List.length_nil] at hf
    obtain ⟨q1, q2⟩ := R2.setK (HR7.out.1.below C1E) (ks' := ks.take i ++ v' :: ks.drop i) (sp' := spK) (g := gK) (c := cK) (by rw [HVK.out]; congr 1; simp [hl]) (by simp; omega) hf.2.2.1 G3 B3 (by simp; omega) (by simp; omega)
    exact ⟨v', q1, B3, (Rg.below C1E).trans q2⟩
  clear C0 C1 C1E hCp CE CG hy
  clear F1 FN e1 B2 G2 HA
  obtain ⟨v, hm1, hm2, hm3⟩ := HM.out
  obtain ⟨spN, hN1, hN2, hN3, hN4⟩ := hm1.numB HVN.out
  have HR8 : Hid (R2 y2 a K1 N1 (ks.take i ++ v :: ks.drop i) (ns ++ [.int .i64 0]) ∧ Rg w y2 (fpR a K N) (fpR a K1 N1)) := ⟨hm1, HR7.out.2.trans hm3⟩
  have HFN : Hid (Blk y2 gN 3 ((ns ++ [.int .i64 0]) ++ spN) ∧ n + 1 ≤ cN ∧ cN ≤ maxLen ∧ (ns ++ [Value.int .i64 0]).length + spN.length = cN) := ⟨hN1, by simpa [HLN.out] using hN2, hN3, hN4⟩
  clear HM hm1 hm2 hm3 HR7 HFK hN1 hN2 hN3 hN4
  obtain ⟨w8, hw8⟩ : ∃ w8, y2 = w8 := ⟨_, rfl⟩
  subst hw8
  -- N: room is made
  have HA : Hid (Blk y2 a 31 [K1, N1]) := HR8.out.1.tree
  obtain ⟨C, hC⟩ : ∃ C : World → Prop, C = fun W => Below y2.heap.size y2 W := ⟨_, rfl⟩
  have F1 : Hid (∀ W, C W → W.cell? ⟨a, 1, none⟩ = some (.slice (some ⟨gN, 0, none⟩) (n + 1) cN)) := fun W hW => by
    rw [hC] at hW
    have := (HA.out.below hW HA.out.lt).cell 1
    rw [← HVN.out]
    exact this
  have CG : Hid (∀ w w', C w → Grow w w' → C w') := fun W W' h1 h2 => by rw [hC] at h1 ⊢; exact h1.trans (h2.mono h1.size)
  have CE : Hid (∀ W, C W → Below y2.heap.size y2 W) := fun W h => by rw [hC] at h; exact h
  have C0 : Hid (C { y2 with drawn := y2.drawn + 1 }) := by rw [hC]; exact Below.drew (Below.refl _ _)
  clear hC
  have FN : Hid (∀ W, C W → Blk W gN 3 ((ns ++ [.int .i64 0]) ++ spN)) := fun W hW => HFN.out.1.below (CE.out W hW) HFN.out.1.lt
  go_wp2_with fail
  refine region_grow [13] (by kernel_rfl) ?_
  have hCp : ∀ p : Prop, (∀ W, C W → p) ↔ p := fun p => ⟨fun h => h _ C0.out, fun h _ _ => h⟩
  generalize ({ y2 with drawn := y2.drawn + 1 } : World) = y0 at *
  have e1 : wrap64 ((i : Int) + 1) = ((i + 1 : Nat) : Int) := wrap_small (by omega) (by omega)
  refine segR 1 [0, 1, 2, 3, 4, 5, 6, 7, 8, 9, 10, 11, 12] rfl (by kernel_rfl) whole_blind CG.out C0.out (by kernel_rfl) ?_
  change wpQuiet _ _ _ _ (_ :: _ :: _ :: _ :: _ :: _ :: _ :: _ :: _ :: _ :: _ :: _ :: _ :: []) _
  repeat (first
    | go_big_quiet_skip
    | (go_big_quiet_want
       first
       | (refine q_slv 29 (.inr rfl) (.tmp 67) rfl a 1 rfl _ _ _ F1.out ?_
          simp only [Act.put, List.setIfInBounds_toArray, List.set_cons_zero, List.set_cons_succ]
          go_big_quiet_on)
       | (refine q_slv 29 (.inr rfl) (.tmp 74) rfl a 1 rfl _ _ _ F1.out ?_
          simp only [Act.put, List.setIfInBounds_toArray, List.set_cons_zero, List.set_cons_succ]
          go_big_quiet_on)
       | (refine q_lo1 29 3 (.inr ⟨rfl, rfl⟩) (.tmp 68) (.tmp 70) rfl _ (n + 1) cN (i + 1) rfl (by first | exact congrArg _ e1 | rfl | (simp only [e1]; rfl)) (by omega) HFN.out.2.1 ?_
          simp only [Act.put, List.setIfInBounds_toArray, List.set_cons_zero, List.set_cons_succ]
          go_big_quiet_on)
       | (refine q_lo1 29 3 (.inr ⟨rfl, rfl⟩) (.tmp 75) (.tmp 76) rfl _ (n + 1) cN i rfl rfl (by omega) HFN.out.2.1 ?_
          simp only [Act.put, List.setIfInBounds_toArray, List.set_cons_zero, List.set_cons_succ]
          go_big_quiet_on)
       | (go_big_quiet_op
          go_big_quiet_on)))
  refine wpQuiet_nil ?_
  refine one_ofR 0 rfl [13] (by kernel_rfl) (by simp) fun j hj => ?_
  obtain rfl := List.mem_singleton.1 hj
  refine ⟨_, rfl, (by rfl), fun y1 hy1 K2 hK2 => ?_⟩
  have C1 : Hid (C y1) := CG.out _ _ C0.out hy1
  clear hy1
  have hcX := HFN.out.2.1
  refine wp_mv 29 3 (.inr ⟨rfl, rfl⟩) (.tmp 71) (.tmp 77) rfl gN (i + 1) i (n - i) (lo1 (some ⟨gN, 0, none⟩) cN (i + 1)) (lo1 (some ⟨gN, 0, none⟩) cN i) (n + 1 - (i + 1)) (cN - (i + 1)) (n + 1 - i) (cN - i) rfl rfl (by show _ = min _ _; omega) (fun q => lo1_lt (by omega)) (fun q => lo1_lt (by omega)) ((ns ++ [.int .i64 0]) ++ spN) (ns.drop i) (FN.out _ C1.out) (by rw [List.length_drop, HLN.out]) (by have := HFN.out.2.2.2; simp only [List.length_append, HLN.out] at this ⊢; omega) (shift_src _ _ _ _ _ HLN.out (by omega)) (fun v hv => HON.out v (List.mem_of_mem_drop hv)) ?_
  intro w' B2 G2
  refine hK2 _ _ (.inl (by simp)) ?_
  clear hK2 K2
  simp only [Act.put, List.setIfInBounds_toArray, List.set_cons_zero, List.set_cons_succ]
  refine doneR (by kernel_rfl) fun y3 hy => ?_
  have C1E := CE.out _ C1.out
  have HM : Hid (∃ u, R2 y3 a K1 N1 (ks.take i ++ v :: ks.drop i) (ns.take i ++ u :: ns.drop i) ∧ Blk y3 gN 3 ((ns.take i ++ u :: ns.drop i) ++ spN) ∧ Rg y2 y3 (fpR a K1 N1) (fpR a K1 N1)) := by
    obtain ⟨v', ev⟩ := shift_mid ns spN (.int .i64 0) i n HLN.out (by omega)
    have B3 := B2.grow hy
    rw [ev] at B3
    have G3 := G2.trans (by_below hy _)
    have hl := HLN.out
    have hf := HFN.out
    simp only [List.length_append, List.length_cons, List.length_nil] at hf
    obtain ⟨q1, q2⟩ := R2.setN (HR8.out.1.below C1E) (ks' := ns.take i ++ v' :: ns.drop i) (sp' := spN) (g := gN) (c := cN) (by rw [HVN.out]; congr 1; simp [hl]) (by simp; omega) hf.2.2.1 G3 B3 (by simp; omega) (by simp; omega)
    exact ⟨v', q1, B3, (Rg.below C1E).trans q2⟩
  clear C0 C1 C1E hCp CE CG hy
  clear F1 FN e1 B2 G2 HA
  obtain ⟨u, hm1, hm2, hm3⟩ := HM.out
  have HR9 : Hid (R2 y3 a K1 N1 (ks.take i ++ v :: ks.drop i) (ns.take i ++ u :: ns.drop i) ∧ Rg w y3 (fpR a K N) (fpR a K1 N1)) := ⟨hm1, HR8.out.2.trans hm3⟩
  clear HM hm1 hm2 hm3 HR8 HFN
  have hx1 : ¬ ((i : Int) < 0) := by omega
  have hx2 : ¬ (((n + 1 : Nat) : Int) ≤ (i : Int)) := by omega
  have hx3 : ¬ ((n : Int) + 1 ≤ (i : Int)) := by omega
  obtain ⟨spK, hK1, hK2, hK3, hK4⟩ := HR9.out.1.keyB HVK.out
  have HB : Hid (Blk y3 gK 9 ((ks.take i ++ v :: ks.drop i) ++ spK) ∧ cK ≤ maxLen ∧ (ks.take i ++ v :: ks.drop i).length + spK.length = cK ∧ (ks.take i ++ v :: ks.drop i).length ≤ cK) := ⟨hK1, hK3, hK4, hK2⟩
  clear hK1 hK2 hK3 hK4
  have c0 : y3.cell? ⟨a, 0, none⟩ = some (.slice (some ⟨gK, 0, none⟩) (n + 1) cK) := by rw [← HVK.out]; exact HR9.out.1.tree.cell 0
  have hlK : Hid ((ks.take i ++ v :: ks.drop i).length = n + 1) := by show _ = _; simp [HLK.out]; omega
  go_wp2_with (refine st_one rfl 9 (.tmp 85) (.tmp 84) rfl gK i 9 _ (.string key) rfl rfl rfl rfl (by rw [List.length_append, hlK.out]; omega) HB.out.1 s9' ?_)
  intro w9 B2 G2
  have HR10 : Hid (R2 w9 a K1 N1 (ks.take i ++ .string key :: ks.drop i) (ns.take i ++ u :: ns.drop i) ∧ Rg w w9 (fpR a K N) (fpR a K1 N1)) := by
    have hti : (ks.take i).length = i := by rw [List.length_take, HLK.out]; omega
    rw [set_mid1 _ _ _ _ _ hti, ← List.cons_append, ← List.append_assoc] at B2
    have hl := hlK.out
    obtain ⟨q1, q2, q3, q4⟩ := HB.out
    obtain ⟨r1, r2⟩ := R2.setK HR9.out.1 (ks' := ks.take i ++ .string key :: ks.drop i) (sp' := spK) (g := gK) (c := cK) (by rw [HVK.out, hl]) (by omega) q2 G2 B2 (by simp) (by simp at q3 ⊢; omega)
    exact ⟨r1, HR9.out.2.trans r2⟩
  clear B2 G2 HR9 HB hlK c0
  obtain ⟨spN, hK1, hK2, hK3, hK4⟩ := HR10.out.1.numB HVN.out
  have HB : Hid (Blk w9 gN 3 ((ns.take i ++ u :: ns.drop i) ++ spN) ∧ cN ≤ maxLen ∧ (ns.take i ++ u :: ns.drop i).length + spN.length = cN ∧ (ns.take i ++ u :: ns.drop i).length ≤ cN) := ⟨hK1, hK3, hK4, hK2⟩
  clear hK1 hK2 hK3 hK4
  have c0 : w9.cell? ⟨a, 1, none⟩ = some (.slice (some ⟨gN, 0, none⟩) (n + 1) cN) := by rw [← HVN.out]; exact HR10.out.1.tree.cell 1
  have hlN : Hid ((ns.take i ++ u :: ns.drop i).length = n + 1) := by show _ = _; simp [HLN.out]; omega
  go_wp2_with (refine st_one rfl 3 (.tmp 92) (.tmp 91) rfl gN i 3 _ (.int .i64 x) rfl rfl rfl rfl (by rw [List.length_append, hlN.out]; omega) HB.out.1 s3' ?_)
  intro w10 B2 G2
  have HF : Hid (RC w w10 a K N M) := by
    have hti : (ns.take i).length = i := by rw [List.length_take, HLN.out]; omega
    rw [set_mid1 _ _ _ _ _ hti, ← List.cons_append, ← List.append_assoc] at B2
    have hl := hlN.out
    obtain ⟨q1, q2, q3, q4⟩ := HB.out
    obtain ⟨r1, r2⟩ := R2.setN HR10.out.1 (ks' := ns.take i ++ .int .i64 x :: ns.drop i) (sp' := spN) (g := gN) (c := cN) (by rw [HVN.out, hl]) (by omega) q2 G2 B2 (by simp) (by simp at q3 ⊢; omega)
    have r3 := HR10.out.2.trans r2
    exact ⟨K1, N1, HEND.out _ _ _ r1, r3.upd, r3.fp⟩
  clear B2 G2 HR10 HB hlN c0 HEND hx1 hx2 hx3
  go_wp2
  go_ret2
  exact ⟨rfl, HF.out⟩
#print axioms rput_miss
end Go.Proofs.Yteokjfpppmnebaa
namespace Go.Proofs.Yteokjfpppmnebaa
open Go.RowKit
set_option linter.unusedVariables false
set_option linter.unusedSimpArgs false
/-- A row that has become another part of its block. -/
theorem R2.cutK {w w2 w3 : World} {a g c m : Nat} {K N V : Value} {ks ns ks' sp' : List Value} (h : R2 w a K N ks ns) (hv : K.ownBlock = some g) (hV : V = .slice (some ⟨g, 0, none⟩) m c) (hm : ks'.length = m) (hc : m ≤ c) (hx : c ≤ maxLen) (g2 : w.grownBy w2 (some g)) (B : Blk w2 g 9 (ks' ++ sp')) (hl : m + sp'.length = c) (hb : Blk w3 a 31 [V, N]) (g3 : w2.grownBy w3 (some a)) :
    R2 w3 a V N ks' ns ∧ Rg w w3 (fpR a K N) (fpR a V N) := by
  obtain ⟨n1, n2, n3⟩ := h.ne
  have hga : g ≠ a := n1 g hv
  have hoV : V.ownBlock = some g := by rw [hV]; rfl
  have ho3 := own_upd (own_upd h.num (Upd.of_by g2) (fun x hx hq => n3 g hv (by rw [← List.mem_singleton.1 hq]; exact hx))) (Upd.of_by g3) (fun x hx hq => n2 x hx (List.mem_singleton.1 hq))
  have hB3 : Blk w3 g 9 (ks' ++ sp') := B.upd (Upd.of_by g3) (fun q => hga (List.mem_singleton.1 q))
  have ho2 : w3.ownsRow 0 9 1 V ks'.length ks' := by
    rw [hV, hm]
    exact val_row (sp := sp') hB3 hc (by rw [List.length_append, Nat.mul_one, hm]; exact hl) hx (by rw [Nat.mul_one]; exact hm)
  have u : Upd (fpR a K N) w w3 := ((Upd.of_by g2).mono (fun x hx _ => by rw [List.mem_singleton.1 hx]; exact mem_fpR.2 (.inr (.inl hv)))).trans (Upd.of_by g3) (fun x hx _ => by rw [List.mem_singleton.1 hx]; simp [fpR])
  refine ⟨⟨hb, ho2, ho3⟩, ⟨u, fun x hx => .inl ?_⟩⟩
  rcases mem_fpR.1 hx with rfl | hx | hx
  · simp [fpR]
  · exact mem_fpR.2 (.inr (.inl (by rw [hoV] at hx; rw [hv]; exact hx)))
  · exact mem_fpR.2 (.inr (.inr hx))
/-- A row that has become another part of its block. -/
theorem R2.cutN {w w2 w3 : World} {a g c m : Nat} {K N V : Value} {ks ns ks' sp' : List Value} (h : R2 w a K N ks ns) (hv : N.ownBlock = some g) (hV : V = .slice (some ⟨g, 0, none⟩) m c) (hm : ks'.length = m) (hc : m ≤ c) (hx : c ≤ maxLen) (g2 : w.grownBy w2 (some g)) (B : Blk w2 g 3 (ks' ++ sp')) (hl : m + sp'.length = c) (hb : Blk w3 a 31 [K, V]) (g3 : w2.grownBy w3 (some a)) :
    R2 w3 a K V ks ks' ∧ Rg w w3 (fpR a K N) (fpR a K V) := by
  obtain ⟨n1, n2, n3⟩ := h.ne
  have hga : g ≠ a := n2 g hv
  have hoV : V.ownBlock = some g := by rw [hV]; rfl
  have ho3 := own_upd (own_upd h.key (Upd.of_by g2) (fun x hx hq => n3 x hx (by rw [List.mem_singleton.1 hq]; exact hv))) (Upd.of_by g3) (fun x hx hq => n1 x hx (List.mem_singleton.1 hq))
  have hB3 : Blk w3 g 3 (ks' ++ sp') := B.upd (Upd.of_by g3) (fun q => hga (List.mem_singleton.1 q))
  have ho2 : w3.ownsRow 0 3 1 V ks'.length ks' := by
    rw [hV, hm]
    exact val_row (sp := sp') hB3 hc (by rw [List.length_append, Nat.mul_one, hm]; exact hl) hx (by rw [Nat.mul_one]; exact hm)
  have u : Upd (fpR a K N) w w3 := ((Upd.of_by g2).mono (fun x hx _ => by rw [List.mem_singleton.1 hx]; exact mem_fpR.2 (.inr (.inr hv)))).trans (Upd.of_by g3) (fun x hx _ => by rw [List.mem_singleton.1 hx]; simp [fpR])
  refine ⟨⟨hb, ho3, ho2⟩, ⟨u, fun x hx => .inl ?_⟩⟩
  rcases mem_fpR.1 hx with rfl | hx | hx
  · simp [fpR]
  · exact mem_fpR.2 (.inr (.inl hx))
  · exact mem_fpR.2 (.inr (.inr (by rw [hoV] at hx; rw [hv]; exact hx)))
/-- append onto a part of a row, of a part of the same row behind it. -/
theorem oper_close {o : Oper} {a : Act} {w : World} {K : Act → World → Prop} {Q : Exit → Act → World → Prop} (t e : TypeId) (hT : (t = 28 ∧ e = 9) ∨ (t = 29 ∧ e = 3)) (s x : Operand) (ho : o.op = .call { callee := .builtin .append, args := #[s, x], argTypes := #[t, t] }) (g c i m cx : Nat) (sa ad : Option Addr)
    (hs : a.eval s = .slice sa i c) (has : sa = some ⟨g, 0, none⟩) (hx : a.eval x = .slice ad m cx) (hnn : ad ≠ none) (rr news : List Value) (hb : Blk w g e rr) (hl : rr.length = c) (hn : news.length = m) (p : Nat) (hp : 0 < m → ad = some ⟨g, p, none⟩) (hsrc : ∀ j v, news[j]? = some v → rr[p + j]? = some v) (h1 : ∀ v ∈ news, v.oneCell' = true) (hroom : i + m ≤ c)
    (h : ∀ w', Blk w' g e (rr.take i ++ news ++ rr.drop (i + m)) → w.grownBy w' (some g) → K (a.put o.dst (.slice (some ⟨g, 0, none⟩) (i + m) c)) w') : Oper.wp Try.prog o a w K Q := by
  subst has
  have hu : Try.prog.underlying t = some (.slice e) := by
    rcases hT with ⟨rfl, rfl⟩ | ⟨rfl, rfl⟩
    · exact Try.underlying28
    · exact Try.underlying29
  have hz : (Try.prog.info? e).map (·.size) = some 1 := by
    rcases hT with ⟨rfl, rfl⟩ | ⟨rfl, rfl⟩
    · exact s9'
    · exact s3'
  cases had : ad with
  | none => exact absurd had hnn
  | some q =>
    rw [had] at hx hp
    cases hq : Try.prog.info? e with
    | none => rw [hq] at hz; cases hz
    | some i0 =>
      have hi : i0.size = 1 := by simpa [hq] using hz
      have hr := run_append_room (P := Try.prog) (ty := o.type) w t e i0 hu hq g i c rr.toArray hb q m cx news (by rw [hi, Nat.mul_one]; exact hn) (fun j u hj => by
        have hjm := (List.getElem?_eq_some_iff.1 hj).1
        have := hp (by omega)
        injection this with this
        subst this
        rw [Addr.add_lit]
        rw [hb.cell]
        exact hsrc j u hj) h1 hroom (by rw [hi]; simp; omega)
      unfold Oper.wp execOp
      simp only [ho, resolve, invoke, builtin, Sem.run_bind, Sem.run_pure, Result.andThen_ok, List.map_toArray, List.map_cons, List.map_nil, hs, hx, hr]
      rw [hi, Nat.mul_one, hn]
      refine h _ ?_ (grown_setRow _ _ _)
      exact blk_setRow hb
theorem erase_cut (L sp : List Value) (i n : Nat) (hn : L.length = n) (hi : i < n) : (L ++ sp).take i ++ L.drop (i + 1) ++ (L ++ sp).drop (i + (n - (i + 1))) = L.eraseIdx i ++ (L ++ sp).drop (n - 1) := by
  subst hn
  rw [List.eraseIdx_eq_take_drop_succ, List.take_append_of_le_length (by omega), show i + (L.length - (i + 1)) = L.length - 1 by omega]
theorem erase_src (L sp : List Value) (i : Nat) : ∀ j v, (L.drop (i + 1))[j]? = some v → (L ++ sp)[i + 1 + j]? = some v := fun j v hj => by
  rw [List.getElem?_drop] at hj
  rw [List.getElem?_append_left (List.getElem?_eq_some_iff.1 hj).1]
  exact hj
set_option maxRecDepth 8000 in
set_option maxHeartbeats 1000000 in
theorem rdel_miss {w : World} {a : Nat} {K N : Value} {es : List E} (key : ByteArray) (h : RO w a K N es) (hs : Srt (ksL es)) (hn : es.length < 50000) (hG : key ∉ ksL es) :
    Calls Try.prog 32 #[.pointer (some ⟨a, 0, none⟩), .string key] w fun e w' => e = .returned (.tuple #[.int .i64 0, .bool false]) ∧ Hid (Below w.heap.size w w') := by
  have KC := rspot_O key h hs (by omega) 0 false (.inr ⟨rfl, hG, rfl⟩)
  clear h hs hn hG
  go_enter Try.func32, Try.ntmps32
  go_wp2_with fail
  refine KC.mono ?_
  clear KC
  rintro e w1 ⟨rfl, H⟩
  go_wp2
  go_ret2
  exact ⟨rfl, H.out⟩
set_option maxRecDepth 8000 in
set_option maxHeartbeats 1000000 in
theorem rdel_hit {w : World} {a : Nat} {K N : Value} {es : List E} (key : ByteArray) (old : Int) (h : RO w a K N es) (hs : Srt (ksL es)) (hn : es.length < 50000) (hG : es[lb (ksL es) key]? = some (key, old)) :
    Calls Try.prog 32 #[.pointer (some ⟨a, 0, none⟩), .string key] w fun e w' => e = .returned (.tuple #[.int .i64 old, .bool true]) ∧ Hid (RC w w' a K N (delL es key true)) := by
  have KC := rspot_O key h hs (by omega) old true (.inl ⟨rfl, hG⟩)
  obtain ⟨ks, HKS⟩ : ∃ ks, Hid (strs es = ks) := ⟨_, rfl⟩
  obtain ⟨ns, HNS⟩ : ∃ ns, Hid (ints es = ns) := ⟨_, rfl⟩
  have HO : Hid (∀ W, Below w.heap.size w W → R2 W a K N ks ns) := fun W z => by have := (h.below z).r2; rw [HKS.out, HNS.out] at this; exact this
  have HOK : Hid (∀ v ∈ ks, v.oneCell' = true) := by rw [← HKS.out]; exact strs_one
  have HON : Hid (∀ v ∈ ns, v.oneCell' = true) := by rw [← HNS.out]; exact ints_one
  have er : ∀ (L : List E) (j : Nat), strs (L.eraseIdx j) = (strs L).eraseIdx j ∧ ints (L.eraseIdx j) = (ints L).eraseIdx j := fun L j => by
    simp [strs, ints, List.eraseIdx_eq_take_drop_succ, List.map_take, List.map_drop]
  have HEND : Hid (∀ W K' N', R2 W a K' N' (ks.eraseIdx (lb (ksL es) key)) (ns.eraseIdx (lb (ksL es) key)) → RO W a K' N' (delL es key true)) := fun W K' N' r => by
    refine R2.ro ?_
    show R2 W a K' N' (strs (es.eraseIdx _)) (ints (es.eraseIdx _))
    rw [(er es _).1, (er es _).2, HKS.out, HNS.out]; exact r
  obtain ⟨n, hnn⟩ : ∃ n, es.length = n := ⟨_, rfl⟩
  have HLK : Hid (ks.length = n) := by rw [← HKS.out, ← hnn]; exact strs_len es
  have HLN : Hid (ns.length = n) := by rw [← HNS.out, ← hnn]; exact ints_len es
  obtain ⟨M, HM⟩ : ∃ M, Hid (delL es key true = M) := ⟨_, rfl⟩
  rw [HM.out] at HEND ⊢
  have HNI : Hid (ns[lb (ksL es) key]? = some (.int .i64 old)) := by
    rw [← HNS.out]
    show (ints es)[_]? = _
    simp only [ints, List.getElem?_map, hG]
    rfl
  have hi : lb (ksL es) key < n := by rw [← hnn]; exact (List.getElem?_eq_some_iff.1 hG).1
  generalize lb (ksL es) key = i at *
  rw [hnn] at hn
  clear h hs hG HKS HNS HM hnn er
  go_enter Try.func32, Try.ntmps32
  go_wp2_with fail
  refine KC.mono ?_
  clear KC
  rintro e w7 ⟨rfl, H⟩
  have HR7 : Hid (R2 w7 a K N ks ns ∧ Rg w w7 (fpR a K N) (fpR a K N)) := ⟨HO.out w7 H.out, Rg.below H.out⟩
  clear H HO
  obtain ⟨gK, cK, spK, hKV1, hK2, hK3, hK4, hK5, hK6⟩ := row_form HR7.out.1.key (by rw [HLK.out]; omega)
  have HVK : Hid (K = .slice (some ⟨gK, 0, none⟩) n cK) := by rw [← HLK.out]; exact hKV1
  have HFK : Hid (Blk w7 gK 9 (ks ++ spK) ∧ n ≤ cK ∧ cK ≤ maxLen ∧ ks.length + spK.length = cK) := ⟨hK2, by have := HLK.out; omega, hK4, hK5⟩
  obtain ⟨gN, cN, spN, hNV1, hN2, hN3, hN4, hN5, hN6⟩ := row_form HR7.out.1.num (by rw [HLN.out]; omega)
  have HVN : Hid (N = .slice (some ⟨gN, 0, none⟩) n cN) := by rw [← HLN.out]; exact hNV1
  have c0 : w7.cell? ⟨a, 1, none⟩ = some (.slice (some ⟨gN, 0, none⟩) n cN) := by rw [← HVN.out]; exact HR7.out.1.tree.cell 1
  have c1 : w7.cell? ⟨gN, i, none⟩ = some (.int .i64 old) := by
    rw [hN2.cell, List.getElem?_append_left (by rw [HLN.out]; exact hi)]
    exact HNI.out
  have hx1 : ¬ ((i : Int) < 0) := by omega
  have hx2 : ¬ ((n : Int) ≤ (i : Int)) := by omega
  clear hKV1 hK2 hK3 hK4 hK5 hK6 hNV1 hN2 hN3 hN4 hN5 hN6
  -- K
  have HA : Hid (Blk w7 a 31 [K, N]) := HR7.out.1.tree
  obtain ⟨C, hC⟩ : ∃ C : World → Prop, C = fun W => Below w7.heap.size w7 W := ⟨_, rfl⟩
  have F1 : Hid (∀ W, C W → W.cell? ⟨a, 0, none⟩ = some (.slice (some ⟨gK, 0, none⟩) n cK)) := fun W hW => by
    rw [hC] at hW
    have := (HA.out.below hW HA.out.lt).cell 0
    rw [← HVK.out]
    exact this
  have CG : Hid (∀ w w', C w → Grow w w' → C w') := fun W W' h1 h2 => by rw [hC] at h1 ⊢; exact h1.trans (h2.mono h1.size)
  have CE : Hid (∀ W, C W → Below w7.heap.size w7 W) := fun W h => by rw [hC] at h; exact h
  have C0 : Hid (C { w7 with drawn := w7.drawn + 1 }) := by rw [hC]; exact Below.drew (Below.refl _ _)
  clear hC
  have FN : Hid (∀ W, C W → Blk W gK 9 (ks ++ spK)) := fun W hW => HFK.out.1.below (CE.out W hW) HFK.out.1.lt
  go_wp2_with fail
  refine region_grow [14, 17] (by kernel_rfl) ?_
  have hCp : ∀ p : Prop, (∀ W, C W → p) ↔ p := fun p => ⟨fun h => h _ C0.out, fun h _ _ => h⟩
  generalize ({ w7 with drawn := w7.drawn + 1 } : World) = y0 at *
  have hCq := anyw_p y0
  have e1 : wrap64 ((i : Int) + 1) = ((i + 1 : Nat) : Int) := wrap_small (by omega) (by omega)
  refine segF 17 [0] rfl (by kernel_rfl) whole_blind (by decide +kernel) ?_
  change wpQuiet _ _ _ _ (_ :: []) _
  repeat (first
    | go_big_quiet_skip
    | (go_big_quiet_want
       first
       | (go_big_quiet_op
          go_big_quiet_on)))
  refine wpQuiet_nil ?_
  clear hCq
  refine segR 4 [1, 2, 3, 4, 5, 6, 7, 8, 9, 10, 11, 12, 13] rfl (by kernel_rfl) whole_blind CG.out C0.out (by kernel_rfl) ?_
  change wpQuiet _ _ _ _ (_ :: _ :: _ :: _ :: _ :: _ :: _ :: _ :: _ :: _ :: _ :: _ :: _ :: []) _
  repeat (first
    | go_big_quiet_skip
    | (go_big_quiet_want
       first
       | (refine q_slv 28 (.inl rfl) (.tmp 27) rfl a 0 rfl _ _ _ F1.out ?_
          simp only [Act.put, List.setIfInBounds_toArray, List.set_cons_zero, List.set_cons_succ]
          go_big_quiet_on)
       | (refine q_slv 28 (.inl rfl) (.tmp 33) rfl a 0 rfl _ _ _ F1.out ?_
          simp only [Act.put, List.setIfInBounds_toArray, List.set_cons_zero, List.set_cons_succ]
          go_big_quiet_on)
       | (refine q_hi1 28 9 (.inl ⟨rfl, rfl⟩) (.tmp 28) (.tmp 29) rfl _ n cK i rfl rfl (by have := HFK.out.2.1; omega) ?_
          simp only [Act.put, List.setIfInBounds_toArray, List.set_cons_zero, List.set_cons_succ]
          go_big_quiet_on)
       | (refine q_lo1 28 9 (.inl ⟨rfl, rfl⟩) (.tmp 34) (.tmp 36) rfl _ n cK (i + 1) rfl (by first | exact congrArg _ e1 | rfl | (simp only [e1]; rfl)) (by omega) HFK.out.2.1 ?_
          simp only [Act.put, List.setIfInBounds_toArray, List.set_cons_zero, List.set_cons_succ]
          go_big_quiet_on)
       | (go_big_quiet_op
          go_big_quiet_on)))
  refine wpQuiet_nil ?_
  refine one_ofR 3 rfl [14] (by kernel_rfl) (by simp) fun j hj => ?_
  obtain rfl := List.mem_singleton.1 hj
  refine ⟨_, rfl, (by rfl), fun y1 hy1 K2 hK2 => ?_⟩
  have C1 : Hid (C y1) := CG.out _ _ C0.out hy1
  clear hy1
  have hcX := HFK.out.2.1
  have hlX := HLK.out
  have hfX := HFK.out.2.2.2
  refine oper_close 28 9 (.inl ⟨rfl, rfl⟩) (.tmp 30) (.tmp 37) rfl gK cK i (n - (i + 1)) (cK - (i + 1)) (lo1 (some ⟨gK, 0, none⟩) cK 0) (lo1 (some ⟨gK, 0, none⟩) cK (i + 1)) rfl (lo1_lt (by omega)) rfl (by unfold lo1; split <;> simp) (ks ++ spK) (ks.drop (i + 1)) (FN.out _ C1.out) (by rw [List.length_append]; exact hfX) (by rw [List.length_drop, hlX]) (i + 1) (fun q => lo1_lt (by omega)) (erase_src _ _ _) (fun v hv => HOK.out v (List.mem_of_mem_drop hv)) (by omega) ?_
  intro w2 B2 G2
  rw [erase_cut _ _ _ _ hlX hi] at B2
  have e5 : i + (n - (i + 1)) = n - 1 := by omega
  rw [e5]
  have C1E := CE.out _ C1.out
  have HR1 : Hid (R2 y1 a K N ks ns ∧ Rg w y1 (fpR a K N) (fpR a K N)) := ⟨HR7.out.1.below C1E, HR7.out.2.trans (Rg.below C1E)⟩
  have HB2 : Hid (Blk w2 gK 9 (ks.eraseIdx i ++ (ks ++ spK).drop (n - 1)) ∧ y1.grownBy w2 (some gK)) := ⟨B2, G2⟩
  refine hK2 _ _ (.inl (by simp)) ?_
  clear hK2 K2 B2 G2 C0 C1 C1E hCp CE CG FN HA e5 hlX hfX hcX e1 F1
  simp only [Act.put, List.setIfInBounds_toArray, List.set_cons_zero, List.set_cons_succ]
  have hCp : ∀ p : Prop, (∀ W, Anyw W → p) ↔ p := fun p => anyw_p w p
  refine loneR (C := Anyw) (i := 15) 2 rfl (by kernel_rfl) rfl rfl (fun _ _ _ _ => trivial) trivial ?_
  repeat (first
    | go_big_quiet_skip
    | (go_big_quiet_want
       first
       | (go_big_quiet_op
          go_big_quiet_on)))
  refine wpQuiet_nil ?_
  clear hCp
  have hCp : ∀ p : Prop, (∀ W, Anyw W → p) ↔ p := fun p => anyw_p w p
  refine loneR (C := Anyw) (i := 16) 1 rfl (by kernel_rfl) rfl rfl (fun _ _ _ _ => trivial) trivial ?_
  repeat (first
    | go_big_quiet_skip
    | (go_big_quiet_want
       first
       | (go_big_quiet_op
          go_big_quiet_on)))
  refine wpQuiet_nil ?_
  clear hCp
  refine one_ofR 0 rfl [17] (by kernel_rfl) (by simp) fun j hj => ?_
  obtain rfl := List.mem_singleton.1 hj
  refine ⟨_, rfl, (by rfl), fun y3 hy1 K2 hK2 => ?_⟩
  have hag : some a ≠ some gK := fun q => HR1.out.1.ne.1 gK (by rw [HVK.out]; rfl) (Option.some.inj q).symm
  have hTa : Blk w2 a 31 [K, N] := HR1.out.1.tree.kept HB2.out.2 hag
  refine oper_st1 28 (.tmp 40) (.tmp 38) rfl a 0 31 _ (.slice (some ⟨gK, 0, none⟩) (n - 1) cK) rfl rfl rfl rfl (by show 0 < 2; decide) (hTa.grow hy1) sStrs ?_
  intro w3 B3 G3
  refine hK2 _ _ (.inl (by simp)) ?_
  simp only [Act.put, List.setIfInBounds_toArray, List.set_cons_zero, List.set_cons_succ]
  refine doneR (by kernel_rfl) fun w8 hy => ?_
  have HR8 : Hid (R2 w8 a (.slice (some ⟨gK, 0, none⟩) (n - 1) cK) N (ks.eraseIdx i) ns ∧ Rg w w8 (fpR a K N) (fpR a (.slice (some ⟨gK, 0, none⟩) (n - 1) cK) N)) := by
    have hl := HLK.out
    have hf := HFK.out
    have G23 := HB2.out.2.trans (by_below hy1 _)
    have G33 := G3.trans (by_below hy _)
    have B33 : Blk w8 a 31 [.slice (some ⟨gK, 0, none⟩) (n - 1) cK, N] := B3.grow hy
    have hel : (ks.eraseIdx i).length = n - 1 := by rw [List.length_eraseIdx_of_lt (by omega), hl]
    obtain ⟨q1, q2⟩ := R2.cutK HR1.out.1 (by rw [HVK.out]; rfl) (V := (.slice (some ⟨gK, 0, none⟩) (n - 1) cK)) (m := n - 1) (c := cK) (g := gK) (ks' := ks.eraseIdx i) (sp' := (ks ++ spK).drop (n - 1)) rfl hel (by omega) hf.2.2.1 G23 (HB2.out.1.grow hy1) (by have := hf.2.2.2; rw [List.length_drop, List.length_append]; omega) B33 G33
    exact ⟨q1, HR1.out.2.trans q2⟩
  clear hK2 K2 B3 G3 hy hy1 HB2 HR1 hTa hag HR7
  obtain ⟨K1, HK1⟩ : ∃ K1, Hid (Value.slice (some ⟨gK, 0, none⟩) (n - 1) cK = K1) := ⟨_, rfl⟩
  rw [HK1.out] at HR8
  obtain ⟨spN, hN1, hN2, hN3, hN4⟩ := HR8.out.1.numB HVN.out
  have HFN : Hid (Blk w8 gN 3 (ns ++ spN) ∧ n ≤ cN ∧ cN ≤ maxLen ∧ ns.length + spN.length = cN) := ⟨hN1, by have := HLN.out; omega, hN3, hN4⟩
  clear hN1 hN2 hN3 hN4 HFK HVK
  -- N
  have HA : Hid (Blk w8 a 31 [K1, N]) := HR8.out.1.tree
  obtain ⟨C, hC⟩ : ∃ C : World → Prop, C = fun W => Below w8.heap.size w8 W := ⟨_, rfl⟩
  have F1 : Hid (∀ W, C W → W.cell? ⟨a, 1, none⟩ = some (.slice (some ⟨gN, 0, none⟩) n cN)) := fun W hW => by
    rw [hC] at hW
    have := (HA.out.below hW HA.out.lt).cell 1
    rw [← HVN.out]
    exact this
  have CG : Hid (∀ w w', C w → Grow w w' → C w') := fun W W' h1 h2 => by rw [hC] at h1 ⊢; exact h1.trans (h2.mono h1.size)
  have CE : Hid (∀ W, C W → Below w8.heap.size w8 W) := fun W h => by rw [hC] at h; exact h
  have C0 : Hid (C { w8 with drawn := w8.drawn + 1 }) := by rw [hC]; exact Below.drew (Below.refl _ _)
  clear hC
  have FN : Hid (∀ W, C W → Blk W gN 3 (ns ++ spN)) := fun W hW => HFN.out.1.below (CE.out W hW) HFN.out.1.lt
  go_wp2_with fail
  refine region_grow [14, 17] (by kernel_rfl) ?_
  have hCp : ∀ p : Prop, (∀ W, C W → p) ↔ p := fun p => ⟨fun h => h _ C0.out, fun h _ _ => h⟩
  generalize ({ w8 with drawn := w8.drawn + 1 } : World) = y0 at *
  have hCq := anyw_p y0
  have e1 : wrap64 ((i : Int) + 1) = ((i + 1 : Nat) : Int) := wrap_small (by omega) (by omega)
  refine segF 17 [0] rfl (by kernel_rfl) whole_blind (by decide +kernel) ?_
  change wpQuiet _ _ _ _ (_ :: []) _
  repeat (first
    | go_big_quiet_skip
    | (go_big_quiet_want
       first
       | (go_big_quiet_op
          go_big_quiet_on)))
  refine wpQuiet_nil ?_
  clear hCq
  refine segR 4 [1, 2, 3, 4, 5, 6, 7, 8, 9, 10, 11, 12, 13] rfl (by kernel_rfl) whole_blind CG.out C0.out (by kernel_rfl) ?_
  change wpQuiet _ _ _ _ (_ :: _ :: _ :: _ :: _ :: _ :: _ :: _ :: _ :: _ :: _ :: _ :: _ :: []) _
  repeat (first
    | go_big_quiet_skip
    | (go_big_quiet_want
       first
       | (refine q_slv 29 (.inr rfl) (.tmp 44) rfl a 1 rfl _ _ _ F1.out ?_
          simp only [Act.put, List.setIfInBounds_toArray, List.set_cons_zero, List.set_cons_succ]
          go_big_quiet_on)
       | (refine q_slv 29 (.inr rfl) (.tmp 50) rfl a 1 rfl _ _ _ F1.out ?_
          simp only [Act.put, List.setIfInBounds_toArray, List.set_cons_zero, List.set_cons_succ]
          go_big_quiet_on)
       | (refine q_hi1 29 3 (.inr ⟨rfl, rfl⟩) (.tmp 45) (.tmp 46) rfl _ n cN i rfl rfl (by have := HFN.out.2.1; omega) ?_
          simp only [Act.put, List.setIfInBounds_toArray, List.set_cons_zero, List.set_cons_succ]
          go_big_quiet_on)
       | (refine q_lo1 29 3 (.inr ⟨rfl, rfl⟩) (.tmp 51) (.tmp 53) rfl _ n cN (i + 1) rfl (by first | exact congrArg _ e1 | rfl | (simp only [e1]; rfl)) (by omega) HFN.out.2.1 ?_
          simp only [Act.put, List.setIfInBounds_toArray, List.set_cons_zero, List.set_cons_succ]
          go_big_quiet_on)
       | (go_big_quiet_op
          go_big_quiet_on)))
  refine wpQuiet_nil ?_
  refine one_ofR 3 rfl [14] (by kernel_rfl) (by simp) fun j hj => ?_
  obtain rfl := List.mem_singleton.1 hj
  refine ⟨_, rfl, (by rfl), fun y1 hy1 K2 hK2 => ?_⟩
  have C1 : Hid (C y1) := CG.out _ _ C0.out hy1
  clear hy1
  have hcX := HFN.out.2.1
  have hlX := HLN.out
  have hfX := HFN.out.2.2.2
  refine oper_close 29 3 (.inr ⟨rfl, rfl⟩) (.tmp 47) (.tmp 54) rfl gN cN i (n - (i + 1)) (cN - (i + 1)) (lo1 (some ⟨gN, 0, none⟩) cN 0) (lo1 (some ⟨gN, 0, none⟩) cN (i + 1)) rfl (lo1_lt (by omega)) rfl (by unfold lo1; split <;> simp) (ns ++ spN) (ns.drop (i + 1)) (FN.out _ C1.out) (by rw [List.length_append]; exact hfX) (by rw [List.length_drop, hlX]) (i + 1) (fun q => lo1_lt (by omega)) (erase_src _ _ _) (fun v hv => HON.out v (List.mem_of_mem_drop hv)) (by omega) ?_
  intro w2 B2 G2
  rw [erase_cut _ _ _ _ hlX hi] at B2
  have e5 : i + (n - (i + 1)) = n - 1 := by omega
  rw [e5]
  have C1E := CE.out _ C1.out
  have HR1 : Hid (R2 y1 a K1 N (ks.eraseIdx i) ns ∧ Rg w y1 (fpR a K N) (fpR a K1 N)) := ⟨HR8.out.1.below C1E, HR8.out.2.trans (Rg.below C1E)⟩
  have HB2 : Hid (Blk w2 gN 3 (ns.eraseIdx i ++ (ns ++ spN).drop (n - 1)) ∧ y1.grownBy w2 (some gN)) := ⟨B2, G2⟩
  refine hK2 _ _ (.inl (by simp)) ?_
  clear hK2 K2 B2 G2 C0 C1 C1E hCp CE CG FN HA e5 hlX hfX hcX e1 F1
  simp only [Act.put, List.setIfInBounds_toArray, List.set_cons_zero, List.set_cons_succ]
  have hCp : ∀ p : Prop, (∀ W, Anyw W → p) ↔ p := fun p => anyw_p w p
  refine loneR (C := Anyw) (i := 15) 2 rfl (by kernel_rfl) rfl rfl (fun _ _ _ _ => trivial) trivial ?_
  repeat (first
    | go_big_quiet_skip
    | (go_big_quiet_want
       first
       | (go_big_quiet_op
          go_big_quiet_on)))
  refine wpQuiet_nil ?_
  clear hCp
  have hCp : ∀ p : Prop, (∀ W, Anyw W → p) ↔ p := fun p => anyw_p w p
  refine loneR (C := Anyw) (i := 16) 1 rfl (by kernel_rfl) rfl rfl (fun _ _ _ _ => trivial) trivial ?_
  repeat (first
    | go_big_quiet_skip
    | (go_big_quiet_want
       first
       | (go_big_quiet_op
          go_big_quiet_on)))
  refine wpQuiet_nil ?_
  clear hCp
  refine one_ofR 0 rfl [17] (by kernel_rfl) (by simp) fun j hj => ?_
  obtain rfl := List.mem_singleton.1 hj
  refine ⟨_, rfl, (by rfl), fun y3 hy1 K2 hK2 => ?_⟩
  have hag : some a ≠ some gN := fun q => HR1.out.1.ne.2.1 gN (by rw [HVN.out]; rfl) (Option.some.inj q).symm
  have hTa : Blk w2 a 31 [K1, N] := HR1.out.1.tree.kept HB2.out.2 hag
  refine oper_st1 29 (.tmp 57) (.tmp 55) rfl a 1 31 _ (.slice (some ⟨gN, 0, none⟩) (n - 1) cN) rfl rfl rfl rfl (by show 1 < 2; decide) (hTa.grow hy1) sInts ?_
  intro w3 B3 G3
  refine hK2 _ _ (.inl (by simp)) ?_
  simp only [Act.put, List.setIfInBounds_toArray, List.set_cons_zero, List.set_cons_succ]
  refine doneR (by kernel_rfl) fun w9 hy => ?_
  have HR9 : Hid (R2 w9 a K1 (.slice (some ⟨gN, 0, none⟩) (n - 1) cN) (ks.eraseIdx i) (ns.eraseIdx i) ∧ Rg w w9 (fpR a K N) (fpR a K1 (.slice (some ⟨gN, 0, none⟩) (n - 1) cN))) := by
    have hl := HLN.out
    have hf := HFN.out
    have G23 := HB2.out.2.trans (by_below hy1 _)
    have G33 := G3.trans (by_below hy _)
    have B33 : Blk w9 a 31 [K1, .slice (some ⟨gN, 0, none⟩) (n - 1) cN] := B3.grow hy
    have hel : (ns.eraseIdx i).length = n - 1 := by rw [List.length_eraseIdx_of_lt (by omega), hl]
    obtain ⟨q1, q2⟩ := R2.cutN HR1.out.1 (by rw [HVN.out]; rfl) (V := (.slice (some ⟨gN, 0, none⟩) (n - 1) cN)) (m := n - 1) (c := cN) (g := gN) (ks' := ns.eraseIdx i) (sp' := (ns ++ spN).drop (n - 1)) rfl hel (by omega) hf.2.2.1 G23 (HB2.out.1.grow hy1) (by have := hf.2.2.2; rw [List.length_drop, List.length_append]; omega) B33 G33
    exact ⟨q1, HR1.out.2.trans q2⟩
  clear hK2 K2 B3 G3 hy hy1 HB2 HR1 hTa hag HR8
  have HF : Hid (RC w w9 a K N M) := ⟨_, _, HEND.out _ _ _ HR9.out.1, HR9.out.2.upd, HR9.out.2.fp⟩
  clear HR9 HEND HFN HVN
  go_wp2
  go_ret2
  exact ⟨rfl, HF.out⟩
#print axioms rdel_hit
end Go.Proofs.Yteokjfpppmnebaa
namespace Go.Proofs.Yteokjfpppmnebaa
open Go.RowKit
set_option linter.unusedVariables false
set_option linter.unusedSimpArgs false
theorem oper_bs0 {o : Oper} {K : Act → World → Prop} {Q : Exit → Act → World → Prop} {a : Act} {w : World} (t e : TypeId) (hT : (t = 28 ∧ e = 9) ∨ (t = 29 ∧ e = 3)) (ho : o.op = .buildSlice t 0 #[]) (hK : K (a.put o.dst (.slice (some ⟨w.heap.size, 0, none⟩) 0 0)) (w.alloc (.cells #[] e))) : Oper.wp Try.prog o a w K Q := by
  unfold Oper.wp execOp
  rcases hT with ⟨rfl, rfl⟩ | ⟨rfl, rfl⟩
  · simp only [ho]
    go_simp
    exact hK
  · simp only [ho]
    go_simp
    exact hK
theorem oper_boxR {o : Oper} {a : Act} {w : World} {K : Act → World → Prop} {Q : Exit → Act → World → Prop} (t : TypeId) (x : Operand) (ho : o.op = .box t x) (cs : List Value) (hx : a.eval x = .agg cs.toArray)
    (h : K (a.put o.dst (.pointer (some ⟨w.heap.size, 0, none⟩))) (w.alloc (.cells cs.toArray t))) : Oper.wp Try.prog o a w K Q := by
  unfold Oper.wp execOp
  simp only [ho, hx, Value.cells, Sem.run_bind, Instr.box, newVar, newRow, run_newObj_alloc, Sem.run_pure, Result.andThen_ok]
  exact h
theorem own_grow {w w' : World} {base e size n : Nat} {v : Value} {xs : List Value} (h : w.ownsRow base e size v n xs) (g : Grow w w') : w'.ownsRow base e size v n xs := own_upd h (Upd.of_below [] g) (by simp)
theorem row_cells {w : World} {e k n c : Nat} {a : Option Addr} {xs : List Value} (h : w.ownsRow 0 e k (.slice a n c) n xs) : ∀ ad, a = some ad → ∀ j u, xs[j]? = some u → w.cell? (ad.add j) = some u := by
  intro ad had j u hu
  subst had
  rcases h.2 with ⟨q, _⟩ | ⟨g, cap, cur, q, _⟩
  · cases q
  · injection q with q1 q2 q3
    injection q1 with q1
    subst q1
    exact h.cells (g := g) rfl j u hu
theorem nil_of {w : World} {e n c : Nat} {a : Option Addr} {xs : List Value} (h : w.ownsRow 0 e 1 (.slice a n c) n xs) : a = none → n = 0 ∧ c = 0 := fun q => by
  subst q
  rcases h.2 with ⟨q, h0⟩ | ⟨g, cap, cur, q, _⟩
  · injection q with _ _ q
    exact ⟨h0, q⟩
  · cases q
set_option maxRecDepth 8000 in
set_option maxHeartbeats 2000000 in
theorem rcopy_any {w : World} {a : Nat} {K N : Value} {es : List E} (h : RO w a K N es) (hn : es.length < 50000) :
    Calls Try.prog 12 #[.pointer (some ⟨a, 0, none⟩)] w fun e w' => ∃ b, e = .returned (.pointer (some ⟨b, 0, none⟩)) ∧ Hid (Below w.heap.size w w' ∧ ∃ K' N', RO w' b K' N' es ∧ ∀ x ∈ fpR b K' N', w.heap.size ≤ x) := by
  obtain ⟨ks, HKS⟩ : ∃ ks, Hid (strs es = ks) := ⟨_, rfl⟩
  obtain ⟨ns, HNS⟩ : ∃ ns, Hid (ints es = ns) := ⟨_, rfl⟩
  obtain ⟨n, hnn⟩ : ∃ n, es.length = n := ⟨_, rfl⟩
  have HLK : Hid (ks.length = n) := by rw [← HKS.out, ← hnn]; exact strs_len es
  have HLN : Hid (ns.length = n) := by rw [← HNS.out, ← hnn]; exact ints_len es
  have HR : Hid (R2 w a K N ks ns) := by have := h.r2; rw [HKS.out, HNS.out] at this; exact this
  have HOK : Hid (∀ v ∈ ks, v.oneCell' = true) := by rw [← HKS.out]; exact strs_one
  have HON : Hid (∀ v ∈ ns, v.oneCell' = true) := by rw [← HNS.out]; exact ints_one
  have HEND : Hid (∀ W b K' N', R2 W b K' N' ks ns → RO W b K' N' es) := fun W b K' N' r => R2.ro (by rw [HKS.out, HNS.out]; exact r)
  rw [hnn] at hn
  obtain ⟨ka, kc, hK, _, _⟩ := row_val HR.out.key
  obtain ⟨na, nc, hN, _, _⟩ := row_val HR.out.num
  rw [HLK.out] at hK
  rw [HLN.out] at hN
  subst hK hN
  have HRK : Hid (w.ownsRow 0 9 1 (.slice ka n kc) n ks) := by have := HR.out.key; rw [HLK.out] at this; exact this
  have HRN : Hid (w.ownsRow 0 3 1 (.slice na n nc) n ns) := by have := HR.out.num; rw [HLN.out] at this; exact this
  have HTR : Hid (Blk w a 31 [.slice ka n kc, .slice na n nc]) := HR.out.tree
  clear h HKS HNS hnn HR
  go_enter Try.func12, Try.ntmps12
  obtain ⟨C, hC⟩ : ∃ C : World → Prop, C = fun W => Below w.heap.size w W := ⟨_, rfl⟩
  have F0 : Hid (∀ W, C W → W.cell? ⟨a, 0, none⟩ = some (.slice ka n kc)) := fun W hW => by rw [hC] at hW; exact (HTR.out.below hW HTR.out.lt).cell 0
  have F1 : Hid (∀ W, C W → W.cell? ⟨a, 1, none⟩ = some (.slice na n nc)) := fun W hW => by rw [hC] at hW; exact (HTR.out.below hW HTR.out.lt).cell 1
  have FK : Hid (∀ W, C W → W.ownsRow 0 9 1 (.slice ka n kc) n ks) := fun W hW => by rw [hC] at hW; exact own_grow HRK.out hW
  have FN : Hid (∀ W, C W → W.ownsRow 0 3 1 (.slice na n nc) n ns) := fun W hW => by rw [hC] at hW; exact own_grow HRN.out hW
  have CG : Hid (∀ w w', C w → Grow w w' → C w') := fun W W' h1 h2 => by rw [hC] at h1 ⊢; exact h1.trans (h2.mono h1.size)
  have CE : Hid (∀ W, C W → Below w.heap.size w W) := fun W h => by rw [hC] at h; exact h
  have C0 : Hid (C { w with drawn := w.drawn + 1 }) := by rw [hC]; exact Below.drew (Below.refl _ _)
  clear hC
  go_wp2_with fail
  refine region_grow [] (by kernel_rfl) ?_
  have hCp : ∀ p : Prop, (∀ W, C W → p) ↔ p := fun p => ⟨fun h => h _ C0.out, fun h _ _ => h⟩
  generalize ({ w with drawn := w.drawn + 1 } : World) = y0 at *
  refine segR 7 [1, 2, 3, 4, 7, 8, 9, 10] rfl (by kernel_rfl) whole_blind CG.out C0.out (by decide +kernel) ?_
  change wpQuiet _ _ _ _ (_ :: _ :: _ :: _ :: _ :: _ :: _ :: _ :: []) _
  repeat (first
    | go_big_quiet_skip
    | (go_big_quiet_want
       first
       | (refine q_slv 28 (.inl rfl) (.tmp 6) rfl a 0 rfl _ _ _ F0.out ?_
          simp only [Act.put, List.setIfInBounds_toArray, List.set_cons_zero, List.set_cons_succ]
          go_big_quiet_on)
       | (refine q_slv 29 (.inr rfl) (.tmp 12) rfl a 1 rfl _ _ _ F1.out ?_
          simp only [Act.put, List.setIfInBounds_toArray, List.set_cons_zero, List.set_cons_succ]
          go_big_quiet_on)
       | (go_big_quiet_op
          go_big_quiet_on)))
  refine wpQuiet_nil ?_
  clear F0 F1 hCp
  refine one_ofR 6 rfl [0, 6] (by decide +kernel) (by simp) fun j hj => ?_
  simp only [List.mem_cons, List.not_mem_nil, or_false] at hj
  rcases hj with rfl | rfl
  · refine ⟨_, rfl, (by rfl), fun u2 hy K hK => ?_⟩
    have Cu2 : Hid (C u2) := CG.out _ _ C0.out hy
    clear hy
    refine oper_bs0 28 9 (.inl ⟨rfl, rfl⟩) rfl ?_
    have G2 : Grow u2 (u2.alloc (.cells #[] 9)) := (Grow.refl u2).alloc _
    refine hK _ _ (.inr G2) ?_
    clear hK K
    simp only [Act.put, List.setIfInBounds_toArray, List.set_cons_zero, List.set_cons_succ]
    have hb2 : Blk (u2.alloc (.cells #[] 9)) u2.heap.size 9 [] := blk_new u2 9 []
    have hs2 : w.heap.size ≤ u2.heap.size := (CE.out _ Cu2.out).size
    have Cv2 : Hid (C (u2.alloc (.cells #[] 9))) := CG.out _ _ Cu2.out G2
    obtain ⟨v2, hv2⟩ : ∃ v2, (u2.alloc (.cells #[] 9)) = v2 := ⟨_, rfl⟩
    rw [hv2] at hb2 G2 Cv2 ⊢
    clear hv2
    obtain ⟨kb, hq2⟩ : ∃ kb, u2.heap.size = kb := ⟨_, rfl⟩
    rw [hq2] at hb2 hs2 ⊢
    clear hq2
    have bKc2 : Hid (Blk v2 kb 9 [] ∧ w.heap.size ≤ kb) := ⟨hb2, hs2⟩
    clear hb2 hs2 G2 Cu2 C0
    refine one_ofR 5 rfl [5, 6] (by decide +kernel) (by simp) fun j hj => ?_
    simp only [List.mem_cons, List.not_mem_nil, or_false] at hj
    rcases hj with rfl | rfl
    · refine ⟨_, rfl, (by rfl), fun u4 hy K hK => ?_⟩
      have Cu4 : Hid (C u4) := CG.out _ _ Cv2.out hy
      have bKa4 : Hid (Blk u4 kb 9 [] ∧ w.heap.size ≤ kb) := ⟨bKc2.out.1.grow hy, bKc2.out.2⟩
      clear bKc2
      clear hy
      have r4 := FK.out _ Cu4.out
      refine oper_appE (.tmp 3) (.tmp 7) 28 9 1 rfl (by decide) Try.underlying28 iStr kb rfl bKa4.out.1 ka n kc rfl (nil_of r4) ks (by rw [HLK.out, Nat.mul_one]) (row_cells r4) HOK.out (by omega) ?_
      intro e6 v4 hr4 G4 ho4
      obtain ⟨eaK, ecK, he4, hz1, hz2⟩ := row_val hr4
      clear hz1 hz2
      subst he4
      have Cv4 : Hid (C v4) := CG.out _ _ Cu4.out G4
      have rKc4 : Hid (v4.ownsRow 0 9 1 (.slice eaK n ecK : Value) n ks ∧ ∀ x, (.slice eaK n ecK : Value).ownBlock = some x → w.heap.size ≤ x) := ⟨hr4, fun x hx => by
        rcases ho4 with q | q
        · rw [hx] at q; injection q with q; subst q; exact bKa4.out.2
        · rw [hx] at q; injection q with q; subst q; exact (CE.out _ Cu4.out).size⟩
      refine hK _ _ (.inr G4) ?_
      clear hK K
      simp only [Act.put, List.setIfInBounds_toArray, List.set_cons_zero, List.set_cons_succ]
      clear r4 hr4 ho4 bKa4
      clear G4 Cu4 Cv2
      refine one_ofR 4 rfl [6] (by decide +kernel) (by simp) fun j hj => ?_
      obtain rfl := List.mem_singleton.1 hj
      refine ⟨_, rfl, (by rfl), fun u6 hy K hK => ?_⟩
      have Cu6 : Hid (C u6) := CG.out _ _ Cv4.out hy
      have rKa6 : Hid (u6.ownsRow 0 9 1 (.slice eaK n ecK : Value) n ks ∧ ∀ x, (.slice eaK n ecK : Value).ownBlock = some x → w.heap.size ≤ x) := ⟨own_grow rKc4.out.1 hy, rKc4.out.2⟩
      clear rKc4
      clear hy
      refine oper_bs0 29 3 (.inr ⟨rfl, rfl⟩) rfl ?_
      have G6 : Grow u6 (u6.alloc (.cells #[] 3)) := (Grow.refl u6).alloc _
      refine hK _ _ (.inr G6) ?_
      clear hK K
      simp only [Act.put, List.setIfInBounds_toArray, List.set_cons_zero, List.set_cons_succ]
      have hb6 : Blk (u6.alloc (.cells #[] 3)) u6.heap.size 3 [] := blk_new u6 3 []
      have hs6 : w.heap.size ≤ u6.heap.size := (CE.out _ Cu6.out).size
      have Cv6 : Hid (C (u6.alloc (.cells #[] 3))) := CG.out _ _ Cu6.out G6
      obtain ⟨v6, hv6⟩ : ∃ v6, (u6.alloc (.cells #[] 3)) = v6 := ⟨_, rfl⟩
      rw [hv6] at hb6 G6 Cv6 ⊢
      clear hv6
      obtain ⟨nb, hq6⟩ : ∃ nb, u6.heap.size = nb := ⟨_, rfl⟩
      rw [hq6] at hb6 hs6 ⊢
      clear hq6
      have rKb6 : Hid (v6.ownsRow 0 9 1 (.slice eaK n ecK : Value) n ks ∧ ∀ x, (.slice eaK n ecK : Value).ownBlock = some x → w.heap.size ≤ x) := ⟨own_grow rKa6.out.1 G6, rKa6.out.2⟩
      clear rKa6
      have bNc6 : Hid (Blk v6 nb 3 [] ∧ w.heap.size ≤ nb) := ⟨hb6, hs6⟩
      clear hb6 hs6 G6 Cu6 Cv4
      refine one_ofR 3 rfl [11] (by decide +kernel) (by simp) fun j hj => ?_
      obtain rfl := List.mem_singleton.1 hj
      refine ⟨_, rfl, (by rfl), fun u8 hy K hK => ?_⟩
      have Cu8 : Hid (C u8) := CG.out _ _ Cv6.out hy
      have rKa8 : Hid (u8.ownsRow 0 9 1 (.slice eaK n ecK : Value) n ks ∧ ∀ x, (.slice eaK n ecK : Value).ownBlock = some x → w.heap.size ≤ x) := ⟨own_grow rKb6.out.1 hy, rKb6.out.2⟩
      clear rKb6
      have bNa8 : Hid (Blk u8 nb 3 [] ∧ w.heap.size ≤ nb) := ⟨bNc6.out.1.grow hy, bNc6.out.2⟩
      clear bNc6
      clear hy
      have r8 := FN.out _ Cu8.out
      refine oper_appE (.tmp 9) (.tmp 13) 29 3 1 rfl (by decide) Try.underlying29 iInt nb rfl bNa8.out.1 na n nc rfl (nil_of r8) ns (by rw [HLN.out, Nat.mul_one]) (row_cells r8) HON.out (by omega) ?_
      intro e6 v8 hr8 G8 ho8
      obtain ⟨eaN, ecN, he8, hz1, hz2⟩ := row_val hr8
      clear hz1 hz2
      subst he8
      have Cv8 : Hid (C v8) := CG.out _ _ Cu8.out G8
      have rNc8 : Hid (v8.ownsRow 0 3 1 (.slice eaN n ecN : Value) n ns ∧ ∀ x, (.slice eaN n ecN : Value).ownBlock = some x → w.heap.size ≤ x) := ⟨hr8, fun x hx => by
        rcases ho8 with q | q
        · rw [hx] at q; injection q with q; subst q; exact bNa8.out.2
        · rw [hx] at q; injection q with q; subst q; exact (CE.out _ Cu8.out).size⟩
      refine hK _ _ (.inr G8) ?_
      clear hK K
      simp only [Act.put, List.setIfInBounds_toArray, List.set_cons_zero, List.set_cons_succ]
      clear r8 hr8 ho8 bNa8
      have rKb8 : Hid (v8.ownsRow 0 9 1 (.slice eaK n ecK : Value) n ks ∧ ∀ x, (.slice eaK n ecK : Value).ownBlock = some x → w.heap.size ≤ x) := ⟨own_grow rKa8.out.1 G8, rKa8.out.2⟩
      clear rKa8
      clear G8 Cu8 Cv6
      have hCp : ∀ p : Prop, (∀ W, C W → p) ↔ p := fun p => ⟨fun h => h _ Cv8.out, fun h _ _ => h⟩
      refine segR 2 [12] rfl (by kernel_rfl) whole_blind CG.out Cv8.out (by decide +kernel) ?_
      change wpQuiet _ _ _ _ (_ :: []) _
      repeat (first
        | go_big_quiet_skip
        | (go_big_quiet_want
           first
           | (go_big_quiet_op
              go_big_quiet_on)))
      refine wpQuiet_nil ?_
      refine one_ofR 1 rfl [13] (by decide +kernel) (by simp) fun j hj => ?_
      obtain rfl := List.mem_singleton.1 hj
      refine ⟨_, rfl, (by rfl), fun uz hy K hK => ?_⟩
      have HZ : Hid (C uz ∧ uz.ownsRow 0 9 1 (.slice eaK n ecK : Value) n ks ∧ uz.ownsRow 0 3 1 (.slice eaN n ecN : Value) n ns ∧ (∀ x, (.slice eaK n ecK : Value).ownBlock = some x → w.heap.size ≤ x) ∧ ∀ x, (.slice eaN n ecN : Value).ownBlock = some x → w.heap.size ≤ x) := ⟨CG.out _ _ Cv8.out hy, own_grow rKb8.out.1 hy, own_grow rNc8.out.1 hy, rKb8.out.2, rNc8.out.2⟩
      clear hy rKb8 rNc8 Cv8 hCp
      refine oper_boxR 31 _ rfl [(.slice eaK n ecK : Value), (.slice eaN n ecN : Value)] rfl ?_
      have GZ : Grow uz (uz.alloc (.cells #[(.slice eaK n ecK : Value), (.slice eaN n ecN : Value)] 31)) := (Grow.refl uz).alloc _
      refine hK _ _ (.inr GZ) ?_
      clear hK K
      simp only [Act.put, List.setIfInBounds_toArray, List.set_cons_zero, List.set_cons_succ]
      have HF : Hid (Below w.heap.size w (uz.alloc (.cells #[(.slice eaK n ecK : Value), (.slice eaN n ecN : Value)] 31)) ∧ ∃ K' N', RO (uz.alloc (.cells #[(.slice eaK n ecK : Value), (.slice eaN n ecN : Value)] 31)) uz.heap.size K' N' es ∧ ∀ x ∈ fpR uz.heap.size K' N', w.heap.size ≤ x) := by
        obtain ⟨h1, h2, h3, h4, h5⟩ := HZ.out
        have hb := CE.out _ h1
        refine ⟨hb.trans (GZ.mono hb.size), (.slice eaK n ecK : Value), (.slice eaN n ecN : Value), HEND.out _ _ _ _ ⟨blk_new uz _ [(.slice eaK n ecK : Value), (.slice eaN n ecN : Value)], ?_, ?_⟩, fun x hx => ?_⟩
        · rw [HLK.out]; exact own_grow h2 GZ
        · rw [HLN.out]; exact own_grow h3 GZ
        · rcases mem_fpR.1 hx with rfl | hx | hx
          · exact hb.size
          · exact h4 x hx
          · exact h5 x hx
      obtain ⟨bz, hbz⟩ : ∃ bz, uz.heap.size = bz := ⟨_, rfl⟩
      rw [hbz] at HF ⊢
      obtain ⟨wz, hwz⟩ : ∃ wz, (uz.alloc (.cells #[(.slice eaK n ecK : Value), (.slice eaN n ecN : Value)] 31)) = wz := ⟨_, rfl⟩
      rw [hwz] at HF ⊢
      clear hbz hwz HZ GZ
      have hCp : ∀ p : Prop, (∀ W, Anyw W → p) ↔ p := fun p => anyw_p w p
      refine loneR (C := Anyw) (i := 14) 0 rfl (by kernel_rfl) rfl rfl (fun _ _ _ _ => trivial) trivial ?_
      repeat (first
        | go_big_quiet_skip
        | (go_big_quiet_want
           first
           | (go_big_quiet_op
              go_big_quiet_on)))
      refine wpQuiet_nil ?_
      clear hCp
      refine doneR (by kernel_rfl) fun y9 hy => ?_
      have HE : Hid (Below w.heap.size w y9 ∧ ∃ K' N', RO y9 bz K' N' es ∧ ∀ x ∈ fpR bz K' N', w.heap.size ≤ x) := by
        obtain ⟨h1, K', N', h2, h3⟩ := HF.out
        exact ⟨h1.trans (hy.mono h1.size), K', N', h2.below hy, h3⟩
      clear hy HF CG CE HEND FK FN HTR HRK HRN HLK HLN HOK HON
      go_wp2
      go_ret
      exact ⟨_, rfl, HE.out⟩
    · refine ⟨_, rfl, (by rfl), fun u9 hy K hK => ?_⟩
      have Cu9 : Hid (C u9) := CG.out _ _ Cv2.out hy
      have bKa9 : Hid (Blk u9 kb 9 [] ∧ w.heap.size ≤ kb) := ⟨bKc2.out.1.grow hy, bKc2.out.2⟩
      clear bKc2
      clear hy
      refine oper_bs0 29 3 (.inr ⟨rfl, rfl⟩) rfl ?_
      have G9 : Grow u9 (u9.alloc (.cells #[] 3)) := (Grow.refl u9).alloc _
      refine hK _ _ (.inr G9) ?_
      clear hK K
      simp only [Act.put, List.setIfInBounds_toArray, List.set_cons_zero, List.set_cons_succ]
      have hb9 : Blk (u9.alloc (.cells #[] 3)) u9.heap.size 3 [] := blk_new u9 3 []
      have hs9 : w.heap.size ≤ u9.heap.size := (CE.out _ Cu9.out).size
      have Cv9 : Hid (C (u9.alloc (.cells #[] 3))) := CG.out _ _ Cu9.out G9
      obtain ⟨v9, hv9⟩ : ∃ v9, (u9.alloc (.cells #[] 3)) = v9 := ⟨_, rfl⟩
      rw [hv9] at hb9 G9 Cv9 ⊢
      clear hv9
      obtain ⟨nb, hq9⟩ : ∃ nb, u9.heap.size = nb := ⟨_, rfl⟩
      rw [hq9] at hb9 hs9 ⊢
      clear hq9
      have bKb9 : Hid (Blk v9 kb 9 [] ∧ w.heap.size ≤ kb) := ⟨bKa9.out.1.grow G9, bKa9.out.2⟩
      clear bKa9
      have bNc9 : Hid (Blk v9 nb 3 [] ∧ w.heap.size ≤ nb) := ⟨hb9, hs9⟩
      clear hb9 hs9 G9 Cu9 Cv2
      refine one_ofR 4 rfl [5] (by decide +kernel) (by simp) fun j hj => ?_
      obtain rfl := List.mem_singleton.1 hj
      refine ⟨_, rfl, (by rfl), fun u11 hy K hK => ?_⟩
      have Cu11 : Hid (C u11) := CG.out _ _ Cv9.out hy
      have bKa11 : Hid (Blk u11 kb 9 [] ∧ w.heap.size ≤ kb) := ⟨bKb9.out.1.grow hy, bKb9.out.2⟩
      clear bKb9
      have bNa11 : Hid (Blk u11 nb 3 [] ∧ w.heap.size ≤ nb) := ⟨bNc9.out.1.grow hy, bNc9.out.2⟩
      clear bNc9
      clear hy
      have r11 := FK.out _ Cu11.out
      refine oper_appE (.tmp 3) (.tmp 7) 28 9 1 rfl (by decide) Try.underlying28 iStr kb rfl bKa11.out.1 ka n kc rfl (nil_of r11) ks (by rw [HLK.out, Nat.mul_one]) (row_cells r11) HOK.out (by omega) ?_
      intro e6 v11 hr11 G11 ho11
      obtain ⟨eaK, ecK, he11, hz1, hz2⟩ := row_val hr11
      clear hz1 hz2
      subst he11
      have Cv11 : Hid (C v11) := CG.out _ _ Cu11.out G11
      have rKc11 : Hid (v11.ownsRow 0 9 1 (.slice eaK n ecK : Value) n ks ∧ ∀ x, (.slice eaK n ecK : Value).ownBlock = some x → w.heap.size ≤ x) := ⟨hr11, fun x hx => by
        rcases ho11 with q | q
        · rw [hx] at q; injection q with q; subst q; exact bKa11.out.2
        · rw [hx] at q; injection q with q; subst q; exact (CE.out _ Cu11.out).size⟩
      refine hK _ _ (.inr G11) ?_
      clear hK K
      simp only [Act.put, List.setIfInBounds_toArray, List.set_cons_zero, List.set_cons_succ]
      clear r11 hr11 ho11 bKa11
      have bNb11 : Hid (Blk v11 nb 3 [] ∧ w.heap.size ≤ nb) := ⟨bNa11.out.1.grow G11, bNa11.out.2⟩
      clear bNa11
      clear G11 Cu11 Cv9
      refine one_ofR 3 rfl [11] (by decide +kernel) (by simp) fun j hj => ?_
      obtain rfl := List.mem_singleton.1 hj
      refine ⟨_, rfl, (by rfl), fun u13 hy K hK => ?_⟩
      have Cu13 : Hid (C u13) := CG.out _ _ Cv11.out hy
      have bNa13 : Hid (Blk u13 nb 3 [] ∧ w.heap.size ≤ nb) := ⟨bNb11.out.1.grow hy, bNb11.out.2⟩
      clear bNb11
      have rKa13 : Hid (u13.ownsRow 0 9 1 (.slice eaK n ecK : Value) n ks ∧ ∀ x, (.slice eaK n ecK : Value).ownBlock = some x → w.heap.size ≤ x) := ⟨own_grow rKc11.out.1 hy, rKc11.out.2⟩
      clear rKc11
      clear hy
      have r13 := FN.out _ Cu13.out
      refine oper_appE (.tmp 9) (.tmp 13) 29 3 1 rfl (by decide) Try.underlying29 iInt nb rfl bNa13.out.1 na n nc rfl (nil_of r13) ns (by rw [HLN.out, Nat.mul_one]) (row_cells r13) HON.out (by omega) ?_
      intro e6 v13 hr13 G13 ho13
      obtain ⟨eaN, ecN, he13, hz1, hz2⟩ := row_val hr13
      clear hz1 hz2
      subst he13
      have Cv13 : Hid (C v13) := CG.out _ _ Cu13.out G13
      have rNc13 : Hid (v13.ownsRow 0 3 1 (.slice eaN n ecN : Value) n ns ∧ ∀ x, (.slice eaN n ecN : Value).ownBlock = some x → w.heap.size ≤ x) := ⟨hr13, fun x hx => by
        rcases ho13 with q | q
        · rw [hx] at q; injection q with q; subst q; exact bNa13.out.2
        · rw [hx] at q; injection q with q; subst q; exact (CE.out _ Cu13.out).size⟩
      refine hK _ _ (.inr G13) ?_
      clear hK K
      simp only [Act.put, List.setIfInBounds_toArray, List.set_cons_zero, List.set_cons_succ]
      clear r13 hr13 ho13 bNa13
      have rKb13 : Hid (v13.ownsRow 0 9 1 (.slice eaK n ecK : Value) n ks ∧ ∀ x, (.slice eaK n ecK : Value).ownBlock = some x → w.heap.size ≤ x) := ⟨own_grow rKa13.out.1 G13, rKa13.out.2⟩
      clear rKa13
      clear G13 Cu13 Cv11
      have hCp : ∀ p : Prop, (∀ W, C W → p) ↔ p := fun p => ⟨fun h => h _ Cv13.out, fun h _ _ => h⟩
      refine segR 2 [12] rfl (by kernel_rfl) whole_blind CG.out Cv13.out (by decide +kernel) ?_
      change wpQuiet _ _ _ _ (_ :: []) _
      repeat (first
        | go_big_quiet_skip
        | (go_big_quiet_want
           first
           | (go_big_quiet_op
              go_big_quiet_on)))
      refine wpQuiet_nil ?_
      refine one_ofR 1 rfl [13] (by decide +kernel) (by simp) fun j hj => ?_
      obtain rfl := List.mem_singleton.1 hj
      refine ⟨_, rfl, (by rfl), fun uz hy K hK => ?_⟩
      have HZ : Hid (C uz ∧ uz.ownsRow 0 9 1 (.slice eaK n ecK : Value) n ks ∧ uz.ownsRow 0 3 1 (.slice eaN n ecN : Value) n ns ∧ (∀ x, (.slice eaK n ecK : Value).ownBlock = some x → w.heap.size ≤ x) ∧ ∀ x, (.slice eaN n ecN : Value).ownBlock = some x → w.heap.size ≤ x) := ⟨CG.out _ _ Cv13.out hy, own_grow rKb13.out.1 hy, own_grow rNc13.out.1 hy, rKb13.out.2, rNc13.out.2⟩
      clear hy rKb13 rNc13 Cv13 hCp
      refine oper_boxR 31 _ rfl [(.slice eaK n ecK : Value), (.slice eaN n ecN : Value)] rfl ?_
      have GZ : Grow uz (uz.alloc (.cells #[(.slice eaK n ecK : Value), (.slice eaN n ecN : Value)] 31)) := (Grow.refl uz).alloc _
      refine hK _ _ (.inr GZ) ?_
      clear hK K
      simp only [Act.put, List.setIfInBounds_toArray, List.set_cons_zero, List.set_cons_succ]
      have HF : Hid (Below w.heap.size w (uz.alloc (.cells #[(.slice eaK n ecK : Value), (.slice eaN n ecN : Value)] 31)) ∧ ∃ K' N', RO (uz.alloc (.cells #[(.slice eaK n ecK : Value), (.slice eaN n ecN : Value)] 31)) uz.heap.size K' N' es ∧ ∀ x ∈ fpR uz.heap.size K' N', w.heap.size ≤ x) := by
        obtain ⟨h1, h2, h3, h4, h5⟩ := HZ.out
        have hb := CE.out _ h1
        refine ⟨hb.trans (GZ.mono hb.size), (.slice eaK n ecK : Value), (.slice eaN n ecN : Value), HEND.out _ _ _ _ ⟨blk_new uz _ [(.slice eaK n ecK : Value), (.slice eaN n ecN : Value)], ?_, ?_⟩, fun x hx => ?_⟩
        · rw [HLK.out]; exact own_grow h2 GZ
        · rw [HLN.out]; exact own_grow h3 GZ
        · rcases mem_fpR.1 hx with rfl | hx | hx
          · exact hb.size
          · exact h4 x hx
          · exact h5 x hx
      obtain ⟨bz, hbz⟩ : ∃ bz, uz.heap.size = bz := ⟨_, rfl⟩
      rw [hbz] at HF ⊢
      obtain ⟨wz, hwz⟩ : ∃ wz, (uz.alloc (.cells #[(.slice eaK n ecK : Value), (.slice eaN n ecN : Value)] 31)) = wz := ⟨_, rfl⟩
      rw [hwz] at HF ⊢
      clear hbz hwz HZ GZ
      have hCp : ∀ p : Prop, (∀ W, Anyw W → p) ↔ p := fun p => anyw_p w p
      refine loneR (C := Anyw) (i := 14) 0 rfl (by kernel_rfl) rfl rfl (fun _ _ _ _ => trivial) trivial ?_
      repeat (first
        | go_big_quiet_skip
        | (go_big_quiet_want
           first
           | (go_big_quiet_op
              go_big_quiet_on)))
      refine wpQuiet_nil ?_
      clear hCp
      refine doneR (by kernel_rfl) fun y9 hy => ?_
      have HE : Hid (Below w.heap.size w y9 ∧ ∃ K' N', RO y9 bz K' N' es ∧ ∀ x ∈ fpR bz K' N', w.heap.size ≤ x) := by
        obtain ⟨h1, K', N', h2, h3⟩ := HF.out
        exact ⟨h1.trans (hy.mono h1.size), K', N', h2.below hy, h3⟩
      clear hy HF CG CE HEND FK FN HTR HRK HRN HLK HLN HOK HON
      go_wp2
      go_ret
      exact ⟨_, rfl, HE.out⟩
  · refine ⟨_, rfl, (by rfl), fun u14 hy K hK => ?_⟩
    have Cu14 : Hid (C u14) := CG.out _ _ C0.out hy
    clear hy
    refine oper_bs0 29 3 (.inr ⟨rfl, rfl⟩) rfl ?_
    have G14 : Grow u14 (u14.alloc (.cells #[] 3)) := (Grow.refl u14).alloc _
    refine hK _ _ (.inr G14) ?_
    clear hK K
    simp only [Act.put, List.setIfInBounds_toArray, List.set_cons_zero, List.set_cons_succ]
    have hb14 : Blk (u14.alloc (.cells #[] 3)) u14.heap.size 3 [] := blk_new u14 3 []
    have hs14 : w.heap.size ≤ u14.heap.size := (CE.out _ Cu14.out).size
    have Cv14 : Hid (C (u14.alloc (.cells #[] 3))) := CG.out _ _ Cu14.out G14
    obtain ⟨v14, hv14⟩ : ∃ v14, (u14.alloc (.cells #[] 3)) = v14 := ⟨_, rfl⟩
    rw [hv14] at hb14 G14 Cv14 ⊢
    clear hv14
    obtain ⟨nb, hq14⟩ : ∃ nb, u14.heap.size = nb := ⟨_, rfl⟩
    rw [hq14] at hb14 hs14 ⊢
    clear hq14
    have bNc14 : Hid (Blk v14 nb 3 [] ∧ w.heap.size ≤ nb) := ⟨hb14, hs14⟩
    clear hb14 hs14 G14 Cu14 C0
    refine one_ofR 5 rfl [0] (by decide +kernel) (by simp) fun j hj => ?_
    obtain rfl := List.mem_singleton.1 hj
    refine ⟨_, rfl, (by rfl), fun u16 hy K hK => ?_⟩
    have Cu16 : Hid (C u16) := CG.out _ _ Cv14.out hy
    have bNa16 : Hid (Blk u16 nb 3 [] ∧ w.heap.size ≤ nb) := ⟨bNc14.out.1.grow hy, bNc14.out.2⟩
    clear bNc14
    clear hy
    refine oper_bs0 28 9 (.inl ⟨rfl, rfl⟩) rfl ?_
    have G16 : Grow u16 (u16.alloc (.cells #[] 9)) := (Grow.refl u16).alloc _
    refine hK _ _ (.inr G16) ?_
    clear hK K
    simp only [Act.put, List.setIfInBounds_toArray, List.set_cons_zero, List.set_cons_succ]
    have hb16 : Blk (u16.alloc (.cells #[] 9)) u16.heap.size 9 [] := blk_new u16 9 []
    have hs16 : w.heap.size ≤ u16.heap.size := (CE.out _ Cu16.out).size
    have Cv16 : Hid (C (u16.alloc (.cells #[] 9))) := CG.out _ _ Cu16.out G16
    obtain ⟨v16, hv16⟩ : ∃ v16, (u16.alloc (.cells #[] 9)) = v16 := ⟨_, rfl⟩
    rw [hv16] at hb16 G16 Cv16 ⊢
    clear hv16
    obtain ⟨kb, hq16⟩ : ∃ kb, u16.heap.size = kb := ⟨_, rfl⟩
    rw [hq16] at hb16 hs16 ⊢
    clear hq16
    have bNb16 : Hid (Blk v16 nb 3 [] ∧ w.heap.size ≤ nb) := ⟨bNa16.out.1.grow G16, bNa16.out.2⟩
    clear bNa16
    have bKc16 : Hid (Blk v16 kb 9 [] ∧ w.heap.size ≤ kb) := ⟨hb16, hs16⟩
    clear hb16 hs16 G16 Cu16 Cv14
    refine one_ofR 4 rfl [5] (by decide +kernel) (by simp) fun j hj => ?_
    obtain rfl := List.mem_singleton.1 hj
    refine ⟨_, rfl, (by rfl), fun u18 hy K hK => ?_⟩
    have Cu18 : Hid (C u18) := CG.out _ _ Cv16.out hy
    have bNa18 : Hid (Blk u18 nb 3 [] ∧ w.heap.size ≤ nb) := ⟨bNb16.out.1.grow hy, bNb16.out.2⟩
    clear bNb16
    have bKa18 : Hid (Blk u18 kb 9 [] ∧ w.heap.size ≤ kb) := ⟨bKc16.out.1.grow hy, bKc16.out.2⟩
    clear bKc16
    clear hy
    have r18 := FK.out _ Cu18.out
    refine oper_appE (.tmp 3) (.tmp 7) 28 9 1 rfl (by decide) Try.underlying28 iStr kb rfl bKa18.out.1 ka n kc rfl (nil_of r18) ks (by rw [HLK.out, Nat.mul_one]) (row_cells r18) HOK.out (by omega) ?_
    intro e6 v18 hr18 G18 ho18
    obtain ⟨eaK, ecK, he18, hz1, hz2⟩ := row_val hr18
    clear hz1 hz2
    subst he18
    have Cv18 : Hid (C v18) := CG.out _ _ Cu18.out G18
    have rKc18 : Hid (v18.ownsRow 0 9 1 (.slice eaK n ecK : Value) n ks ∧ ∀ x, (.slice eaK n ecK : Value).ownBlock = some x → w.heap.size ≤ x) := ⟨hr18, fun x hx => by
      rcases ho18 with q | q
      · rw [hx] at q; injection q with q; subst q; exact bKa18.out.2
      · rw [hx] at q; injection q with q; subst q; exact (CE.out _ Cu18.out).size⟩
    refine hK _ _ (.inr G18) ?_
    clear hK K
    simp only [Act.put, List.setIfInBounds_toArray, List.set_cons_zero, List.set_cons_succ]
    clear r18 hr18 ho18 bKa18
    have bNb18 : Hid (Blk v18 nb 3 [] ∧ w.heap.size ≤ nb) := ⟨bNa18.out.1.grow G18, bNa18.out.2⟩
    clear bNa18
    clear G18 Cu18 Cv16
    refine one_ofR 3 rfl [11] (by decide +kernel) (by simp) fun j hj => ?_
    obtain rfl := List.mem_singleton.1 hj
    refine ⟨_, rfl, (by rfl), fun u20 hy K hK => ?_⟩
    have Cu20 : Hid (C u20) := CG.out _ _ Cv18.out hy
    have bNa20 : Hid (Blk u20 nb 3 [] ∧ w.heap.size ≤ nb) := ⟨bNb18.out.1.grow hy, bNb18.out.2⟩
    clear bNb18
    have rKa20 : Hid (u20.ownsRow 0 9 1 (.slice eaK n ecK : Value) n ks ∧ ∀ x, (.slice eaK n ecK : Value).ownBlock = some x → w.heap.size ≤ x) := ⟨own_grow rKc18.out.1 hy, rKc18.out.2⟩
    clear rKc18
    clear hy
    have r20 := FN.out _ Cu20.out
    refine oper_appE (.tmp 9) (.tmp 13) 29 3 1 rfl (by decide) Try.underlying29 iInt nb rfl bNa20.out.1 na n nc rfl (nil_of r20) ns (by rw [HLN.out, Nat.mul_one]) (row_cells r20) HON.out (by omega) ?_
    intro e6 v20 hr20 G20 ho20
    obtain ⟨eaN, ecN, he20, hz1, hz2⟩ := row_val hr20
    clear hz1 hz2
    subst he20
    have Cv20 : Hid (C v20) := CG.out _ _ Cu20.out G20
    have rNc20 : Hid (v20.ownsRow 0 3 1 (.slice eaN n ecN : Value) n ns ∧ ∀ x, (.slice eaN n ecN : Value).ownBlock = some x → w.heap.size ≤ x) := ⟨hr20, fun x hx => by
      rcases ho20 with q | q
      · rw [hx] at q; injection q with q; subst q; exact bNa20.out.2
      · rw [hx] at q; injection q with q; subst q; exact (CE.out _ Cu20.out).size⟩
    refine hK _ _ (.inr G20) ?_
    clear hK K
    simp only [Act.put, List.setIfInBounds_toArray, List.set_cons_zero, List.set_cons_succ]
    clear r20 hr20 ho20 bNa20
    have rKb20 : Hid (v20.ownsRow 0 9 1 (.slice eaK n ecK : Value) n ks ∧ ∀ x, (.slice eaK n ecK : Value).ownBlock = some x → w.heap.size ≤ x) := ⟨own_grow rKa20.out.1 G20, rKa20.out.2⟩
    clear rKa20
    clear G20 Cu20 Cv18
    have hCp : ∀ p : Prop, (∀ W, C W → p) ↔ p := fun p => ⟨fun h => h _ Cv20.out, fun h _ _ => h⟩
    refine segR 2 [12] rfl (by kernel_rfl) whole_blind CG.out Cv20.out (by decide +kernel) ?_
    change wpQuiet _ _ _ _ (_ :: []) _
    repeat (first
      | go_big_quiet_skip
      | (go_big_quiet_want
         first
         | (go_big_quiet_op
            go_big_quiet_on)))
    refine wpQuiet_nil ?_
    refine one_ofR 1 rfl [13] (by decide +kernel) (by simp) fun j hj => ?_
    obtain rfl := List.mem_singleton.1 hj
    refine ⟨_, rfl, (by rfl), fun uz hy K hK => ?_⟩
    have HZ : Hid (C uz ∧ uz.ownsRow 0 9 1 (.slice eaK n ecK : Value) n ks ∧ uz.ownsRow 0 3 1 (.slice eaN n ecN : Value) n ns ∧ (∀ x, (.slice eaK n ecK : Value).ownBlock = some x → w.heap.size ≤ x) ∧ ∀ x, (.slice eaN n ecN : Value).ownBlock = some x → w.heap.size ≤ x) := ⟨CG.out _ _ Cv20.out hy, own_grow rKb20.out.1 hy, own_grow rNc20.out.1 hy, rKb20.out.2, rNc20.out.2⟩
    clear hy rKb20 rNc20 Cv20 hCp
    refine oper_boxR 31 _ rfl [(.slice eaK n ecK : Value), (.slice eaN n ecN : Value)] rfl ?_
    have GZ : Grow uz (uz.alloc (.cells #[(.slice eaK n ecK : Value), (.slice eaN n ecN : Value)] 31)) := (Grow.refl uz).alloc _
    refine hK _ _ (.inr GZ) ?_
    clear hK K
    simp only [Act.put, List.setIfInBounds_toArray, List.set_cons_zero, List.set_cons_succ]
    have HF : Hid (Below w.heap.size w (uz.alloc (.cells #[(.slice eaK n ecK : Value), (.slice eaN n ecN : Value)] 31)) ∧ ∃ K' N', RO (uz.alloc (.cells #[(.slice eaK n ecK : Value), (.slice eaN n ecN : Value)] 31)) uz.heap.size K' N' es ∧ ∀ x ∈ fpR uz.heap.size K' N', w.heap.size ≤ x) := by
      obtain ⟨h1, h2, h3, h4, h5⟩ := HZ.out
      have hb := CE.out _ h1
      refine ⟨hb.trans (GZ.mono hb.size), (.slice eaK n ecK : Value), (.slice eaN n ecN : Value), HEND.out _ _ _ _ ⟨blk_new uz _ [(.slice eaK n ecK : Value), (.slice eaN n ecN : Value)], ?_, ?_⟩, fun x hx => ?_⟩
      · rw [HLK.out]; exact own_grow h2 GZ
      · rw [HLN.out]; exact own_grow h3 GZ
      · rcases mem_fpR.1 hx with rfl | hx | hx
        · exact hb.size
        · exact h4 x hx
        · exact h5 x hx
    obtain ⟨bz, hbz⟩ : ∃ bz, uz.heap.size = bz := ⟨_, rfl⟩
    rw [hbz] at HF ⊢
    obtain ⟨wz, hwz⟩ : ∃ wz, (uz.alloc (.cells #[(.slice eaK n ecK : Value), (.slice eaN n ecN : Value)] 31)) = wz := ⟨_, rfl⟩
    rw [hwz] at HF ⊢
    clear hbz hwz HZ GZ
    have hCp : ∀ p : Prop, (∀ W, Anyw W → p) ↔ p := fun p => anyw_p w p
    refine loneR (C := Anyw) (i := 14) 0 rfl (by kernel_rfl) rfl rfl (fun _ _ _ _ => trivial) trivial ?_
    repeat (first
      | go_big_quiet_skip
      | (go_big_quiet_want
         first
         | (go_big_quiet_op
            go_big_quiet_on)))
    refine wpQuiet_nil ?_
    clear hCp
    refine doneR (by kernel_rfl) fun y9 hy => ?_
    have HE : Hid (Below w.heap.size w y9 ∧ ∃ K' N', RO y9 bz K' N' es ∧ ∀ x ∈ fpR bz K' N', w.heap.size ≤ x) := by
      obtain ⟨h1, K', N', h2, h3⟩ := HF.out
      exact ⟨h1.trans (hy.mono h1.size), K', N', h2.below hy, h3⟩
    clear hy HF CG CE HEND FK FN HTR HRK HRN HLK HLN HOK HON
    go_wp2
    go_ret
    exact ⟨_, rfl, HE.out⟩
#print axioms rcopy_any
end Go.Proofs.Yteokjfpppmnebaa
