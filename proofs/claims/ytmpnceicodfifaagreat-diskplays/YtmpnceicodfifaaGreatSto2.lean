/-
  The law package's does, all kinds; and stood.
-/
import Derived.Test.YtmpnceicodfifaaGreatDap
namespace Go.Proofs.YtmpnceicodfifaaGreat
open Go.RowKit Go.Maps
set_option linter.unusedVariables false
theorem does_any {w0 : World} {B : Nat} {X : Nat → Prop} {bd br : Nat} {a : Ab} {W : World} (h : Two w0 B X bd br a a W) (kind n : Int) (hn : n < 9223372036854775808) (A T : ByteArray) (hA : A.size ≤ maxLen) (a0 : Option Addr) (cap : Nat) (l : List Nat) (hby : Byt W a0 l) (hin : ∀ b off, a0 = some ⟨b, off, none⟩ → l ≠ [] → b < B) (hnil : a0 = none → cap = 0) (hln : l.length ≤ 8000) (hoct : Oct l) :
    Calls Tryz.prog 12 #[.pointer (some ⟨bd, 0, none⟩), .pointer (some ⟨br, 0, none⟩), .agg #[.int .i64 kind, .int .i64 n, .string A, .string T, .slice a0 l.length cap]] W fun e w' => e = .returned (.bool true) ∧ ∃ a', Two w0 B X bd br a' a' w' := by
  by_cases k1 : kind = 1
  · subst k1; exact does_append h n A T a0 cap l hby hin hnil hln hoct
  by_cases k2 : kind = 2
  · subst k2; exact does_sync h n A T a0 _ cap
  by_cases k3 : kind = 3
  · subst k3; exact does_trunc h n A T a0 _ cap
  by_cases k4 : kind = 4
  · subst k4; exact does_rename h n A T a0 _ cap
  by_cases k5 : kind = 5
  · subst k5; exact does_remove h n A T a0 _ cap
  by_cases k6 : kind = 6
  · subst k6; exact does_fuse h n hn A T a0 _ cap
  by_cases k7 : kind = 7
  · subst k7; exact does_crash h n hn A T a0 _ cap
  exact does_read h kind n A T hA a0 _ cap (by simpa using k1) (by simpa using k2) (by simpa using k3) (by simpa using k4) (by simpa using k5) (by simpa using k6) (by simpa using k7)
theorem Two.guard {w0 : World} {B : Nat} {X : Nat → Prop} {bd br : Nat} {a1 a2 : Ab} {W W5 : World} (h : Two w0 B X bd br a1 a2 W) (hb : Below W.heap.size W W5) (Y : Nat → Prop) (hY : ∀ i, Y i → W.heap.size ≤ i ∧ i < W5.heap.size) : Two W5 B (fun i => X i ∨ Y i) bd br a1 a2 W5 := by
  obtain ⟨S, R, hd, hr, hap, hS, hR, hB, hX, hk⟩ := h
  have k : Kept (fun _ => False) W W5 := Kept.of_below hb
  refine ⟨S, R, hd.keptBy k (fun _ _ h => h), hr.keptBy k (fun _ _ h => h), hap, fun i hi => ⟨(hS i hi).1, ?_⟩, fun i hi => ⟨(hR i hi).1, ?_⟩, Nat.le_trans hB hb.size, ?_, Kept.refl _ _⟩
  · have := hd.lt hi
    rintro (e | e)
    · exact (hS i hi).2 e
    · have := hY i e; omega
  · have := hr.lt hi
    rintro (e | e)
    · exact (hR i hi).2 e
    · have := hY i e; omega
  · rintro i (e | e)
    · exact Nat.lt_of_lt_of_le (hX i e) hb.size
    · exact (hY i e).2
theorem Two.unguard {w0 : World} {B : Nat} {X Y : Nat → Prop} {bd br bd' br' : Nat} {a1 a2 a1' a2' : Ab} {W W5 W' : World} (h : Two w0 B X bd br a1 a2 W) (hb : Below W.heap.size W W5) (h' : Two W5 B (fun i => X i ∨ Y i) bd' br' a1' a2' W') : Two w0 B X bd' br' a1' a2' W' := by
  obtain ⟨_, _, _, _, _, _, _, hB0, hX0, hk0⟩ := h
  obtain ⟨S, R, hd, hr, hap, hS, hR, hB, hX, hk⟩ := h'
  refine ⟨S, R, hd, hr, hap, fun i hi => ⟨(hS i hi).1, fun e => (hS i hi).2 (.inl e)⟩, fun i hi => ⟨(hR i hi).1, fun e => (hR i hi).2 (.inl e)⟩, hB, fun i hi => hX i (.inl hi), ?_⟩
  exact (hk0.trans (Kept.of_below (S := fun _ => False) hb) (fun _ _ h => h.elim)).trans hk (fun i _ e => ⟨e.1, fun x => e.2 (.inl x)⟩)
theorem Inn.keys {lk : Int} {w : World} {bs bm : Nat} {room used fuse : Int} {ix : List (Nm × Nat)} {ct : Nat → File} (h : Inn lk w bs bm room used fuse ix ct) : ∀ p ∈ ix, p.1.length ≤ maxLen := by
  intro p hp
  obtain ⟨es, e, hk⟩ := h.map.keysOf
  unfold dat at e
  injection e with e
  subst e
  obtain ⟨key, hkey⟩ := hk (ent p) (List.mem_map.2 ⟨p, hp, rfl⟩)
  obtain ⟨x, _, e2, hx⟩ := Maps.keyOf_str Tryz.underlying9 hkey
  simp only [ent, Lit.string.injEq] at e2
  rw [e2]; exact hx
theorem Two.keys {w0 : World} {B : Nat} {X : Nat → Prop} {bd br : Nat} {a1 a2 : Ab} {W : World} (h : Two w0 B X bd br a1 a2 W) : ∀ p ∈ a1.fs, p.1.length ≤ maxLen := by
  obtain ⟨S, R, ⟨_, bs, bm, ix, ct, _, hi, hv, _⟩, _⟩ := h
  intro p hp
  rw [hv] at hp
  obtain ⟨q, hq, rfl⟩ := List.mem_map.1 hp
  exact hi.keys q hq
theorem TOwn.kept' {T : Nat → Prop} {w w' : World} {base : Nat} {v : Value} {ss : List (List UInt8)} (h : TOwn w base v ss) (hk : Kept T w w') (hT : ∀ g, v.ownBlock = some g → ¬ T g) : TOwn w' base v ss := by
  rcases h with ⟨h0, ⟨rfl, h1⟩ | ⟨g', cap, cur, rfl, h2, hh, h3⟩⟩
  · exact ⟨h0, .inl ⟨rfl, h1⟩⟩
  · refine ⟨h0, .inr ⟨g', cap, cur, rfl, h2, ?_, h3⟩⟩
    rw [hk.block g' (Array.getElem?_eq_some_iff.1 hh).1 (hT g' rfl)]
    exact hh
theorem TOwn.lt {w : World} {base : Nat} {v : Value} {ss : List (List UInt8)} (h : TOwn w base v ss) {g : Nat} (hg : v.ownBlock = some g) : base ≤ g ∧ g < w.heap.size := World.ownsRow.lt h g hg
/-- The names of both. -/
def tns (a : Ab) : List ByteArray := (nms a.fs).map bsOf
theorem list_two {w0 : World} {B : Nat} {X : Nat → Prop} {bd br : Nat} {a : Ab} {W : World} (h : Two w0 B X bd br a a W) :
    Calls Tryz.prog 43 #[.pointer (some ⟨bd, 0, none⟩)] W fun e w' => ∃ p c, e = .returned (.slice p (tns a).length c) ∧ Hid (Tx w' p (tns a) ∧ Two w0 B X bd br a a w') := by
  have hl := h.lim
  obtain ⟨S, hd, hS, hn⟩ := h.disk
  refine (list_disk hd).mono ?_
  rintro e w' ⟨v, ss, rfl, hp⟩
  obtain ⟨h1, h2, h3, h4⟩ := hp.out
  rw [names_sorted hl.ris h1] at h2
  obtain ⟨p, c, rfl, ht⟩ := tx_of h2
  exact ⟨p, c, rfl, ht, hn _ _ _ h3 (Went.of_kept h4 (fun _ _ h => h))⟩
theorem used_two {w0 : World} {B : Nat} {X : Nat → Prop} {bd br : Nat} {a : Ab} {W : World} (h : Two w0 B X bd br a a W) :
    Calls Tryz.prog 44 #[.pointer (some ⟨bd, 0, none⟩)] W fun e w' => e = .returned (.int .i64 (total a.fs : Nat)) ∧ Hid (Two w0 B X bd br a a w') := by
  obtain ⟨S, hd, hS, hn⟩ := h.disk
  refine (used_disk hd).mono ?_
  rintro e w' ⟨rfl, h3, h4⟩
  exact ⟨rfl, hn _ _ _ h3 (Went.of_kept h4 (fun _ _ h => h))⟩
theorem rused_two {w0 : World} {B : Nat} {X : Nat → Prop} {bd br : Nat} {a : Ab} {W : World} (h : Two w0 B X bd br a a W) :
    Calls Tryz.prog 45 #[.pointer (some ⟨br, 0, none⟩)] W fun e w' => e = .returned (.int .i64 (total a.fs : Nat)) ∧ w' = W := by
  have hl := h.lim
  obtain ⟨R, hr, hR, hn⟩ := h.ref
  obtain ⟨its, aL, cL, hs⟩ := hr.seen
  exact used_any hs (Ref.len (w := W) (br := br) (R := R) hl hs.fs) hl.tot
theorem rlist_two {w0 : World} {B : Nat} {X : Nat → Prop} {bd br : Nat} {a : Ab} {W : World} (h : Two w0 B X bd br a a W) :
    Calls Tryz.prog 41 #[.pointer (some ⟨br, 0, none⟩)] W fun e w' => ∃ p c, e = .returned (.slice p (tns a).length c) ∧ Hid (∃ X1, Two w' B X1 bd br a a w' ∧ ∀ W', Two w' B X1 bd br a a W' → Tx W' p (tns a) ∧ Two w0 B X bd br a a W') := by
  have hl := h.lim
  have h' := h
  obtain ⟨R, hr, hR, hn⟩ := h.ref
  refine (rlist_any hr hl).mono ?_
  rintro e w' ⟨v, rfl, hp⟩
  obtain ⟨ht, hb⟩ := hp.out
  obtain ⟨p, c, rfl, _⟩ := tx_of ht
  refine ⟨p, c, rfl, fun i => X i ∨ (Value.slice p ((nms a.fs).map bsOf).length c).ownBlock = some i, h'.guard hb _ (fun i hi => ht.lt hi), fun W' h2 => ⟨?_, h'.unguard hb h2⟩⟩
  obtain ⟨_, _, _, _, _, _, _, _, _, hk⟩ := h2
  obtain ⟨p', c', e, hx⟩ := tx_of (ht.kept' hk (fun g hg e => e.2 (.inr hg)))
  injection e with e1
  rw [e1]; exact hx
theorem get_at {a : Ab} (hl : Lim a) {k : Nat} {nm : Nm} {y : Fl} (h : a.fs[k]? = some (nm, y)) : get a.fs nm = some y := by
  have hm := List.mem_of_getElem? h
  cases e : get a.fs nm with
  | none => exact (get_mem e (List.mem_map.2 ⟨_, hm, rfl⟩)).elim
  | some y' => exact congrArg some (congrArg Prod.snd (fst_inj hl.fine.fs.one (mem_of_get e) hm rfl))
set_option maxRecDepth 8000 in
set_option maxHeartbeats 4000000 in
theorem stood_any {w0 : World} {B : Nat} {X : Nat → Prop} {bd br : Nat} {a : Ab} {W : World} (h : Two w0 B X bd br a a W) :
    Calls Tryz.prog 13 #[.pointer (some ⟨bd, 0, none⟩), .pointer (some ⟨br, 0, none⟩)] W fun e w' => e = .returned (.bool true) ∧ Two w0 B X bd br a a w' := by
  have HL : Hid (Calls Tryz.prog 41 #[.pointer (some ⟨br, 0, none⟩)] W fun e w' => ∃ p c, e = .returned (.slice p (tns a).length c) ∧ Hid (∃ X1, Two w' B X1 bd br a a w' ∧ ∀ W', Two w' B X1 bd br a a W' → Tx W' p (tns a) ∧ Two w0 B X bd br a a W')) := rlist_two h
  have HF : Hid (Lim a) := h.lim
  have HK : Hid (∀ p ∈ a.fs, p.1.length ≤ maxLen) := h.keys
  have HNL : Hid ((tns a).length = a.fs.length) := by show _ = _; unfold tns nms; simp
  have htn : (tns a).length ≤ 1000000 := by rw [HNL.out]; have := h.lim.fine.fs.files; omega
  clear h
  go_enter Tryz.func13, Tryz.ntmps13
  go_wp2_with (go_at_call 41; refine HL.out.mono ?_; rintro e w1 ⟨p, c, rfl, h1⟩)
  obtain ⟨X1, q1, q2⟩ := h1.out
  obtain ⟨P, hP⟩ : ∃ P : World → Prop, P = fun W' => Two w1 B X1 bd br a a W' := ⟨_, rfl⟩
  have P1 : Hid (P w1) := by rw [hP]; exact q1
  have PT : Hid (∀ W', P W' → Tx W' p (tns a)) := fun W' h' => by rw [hP] at h'; exact (q2 _ h').1
  have PE : Hid (∀ W', P W' → Two w0 B X bd br a a W') := fun W' h' => by rw [hP] at h'; exact (q2 _ h').2
  have PD : Hid (∀ W' W'', P W' → Below W'.heap.size W' W'' → P W'') := fun W' W'' h' hb => by rw [hP] at h' ⊢; exact h'.below hb
  have CL : Hid (∀ W', P W' → Calls Tryz.prog 43 #[.pointer (some ⟨bd, 0, none⟩)] W' fun e w' => ∃ p c, e = .returned (.slice p (tns a).length c) ∧ Hid (Tx w' p (tns a) ∧ P w')) := fun W' h' => by rw [hP] at h' ⊢; exact list_two h'
  have CU : Hid (∀ W', P W' → Calls Tryz.prog 44 #[.pointer (some ⟨bd, 0, none⟩)] W' fun e w' => e = .returned (.int .i64 (total a.fs : Nat)) ∧ Hid (P w')) := fun W' h' => by rw [hP] at h' ⊢; exact used_two h'
  have CV : Hid (∀ W', P W' → Calls Tryz.prog 45 #[.pointer (some ⟨br, 0, none⟩)] W' fun e w' => e = .returned (.int .i64 (total a.fs : Nat)) ∧ w' = W') := fun W' h' => by rw [hP] at h'; exact rused_two h'
  have CR : Hid (∀ W' s, P W' → s.size ≤ maxLen → Calls Tryz.prog 15 #[.pointer (some ⟨bd, 0, none⟩), .string s] W' fun e w' => ∃ p c, e = .returned (.tuple #[.slice p (bof (get a.fs s.data.toList)).length c, .int .i64 (eof (get a.fs s.data.toList))]) ∧
      Hid (Own w' W'.heap.size (.slice p (bof (get a.fs s.data.toList)).length c) (bof (get a.fs s.data.toList)) ∧ P w')) := fun W' s h' hs => by
    rw [hP] at h' ⊢
    refine (read_two h' s hs).mono ?_
    rintro e w' ⟨p, c, rfl, hp⟩
    exact ⟨p, c, rfl, hp.out.1, hp.out.2.2 _ (Below.refl _ _)⟩
  have CS : Hid (∀ W' s, P W' → Calls Tryz.prog 40 #[.pointer (some ⟨br, 0, none⟩), .string s] W' fun e w' => ∃ p c, e = .returned (.tuple #[.slice p (bof (get a.fs s.data.toList)).length c, .int .i64 (eof (get a.fs s.data.toList))]) ∧
      Hid (Own w' W'.heap.size (.slice p (bof (get a.fs s.data.toList)).length c) (bof (get a.fs s.data.toList)) ∧ Below W'.heap.size W' w')) := fun W' s h' => by rw [hP] at h'; exact rread_two h' s
  clear q1 q2 h1 HL hP
  generalize total a.fs = tt at *
  obtain ⟨nl, hN⟩ : ∃ nl, nl = (tns a).length := ⟨_, rfl⟩
  have CT : Hid (∀ p1 c1 p2 c2 W', Tx W' p1 (tns a) → Tx W' p2 (tns a) → P W' → Calls Tryz.prog 42 #[.slice p1 nl c1, .slice p2 nl c2] W' fun e w' => e = .returned (.bool true) ∧ Hid (P w')) := fun p1 c1 p2 c2 W' t1 t2 h' => by
    rw [hN]
    refine (texts_any p1 p2 c1 c2 (tns a) htn W' t1 t2).mono ?_
    rintro e w' ⟨rfl, q, rfl⟩
    exact ⟨rfl, PD.out _ _ h' (below_dq _ _)⟩
  have HNN : Hid (nl = (tns a).length) := hN
  rw [← hN] at CL htn ⊢
  clear hN
  go_wp2_with (first
    | (go_at_call 43; refine (CL.out _ P1.out).mono ?_; rintro e w2 ⟨p2, c2, rfl, h2⟩)
    | (go_at_call 42; refine (CT.out _ _ _ _ _ h2.out.1 (PT.out _ h2.out.2) h2.out.2).mono ?_; rintro e w3 ⟨rfl, h3⟩)
    | (go_at_call 44; refine (CU.out _ h3.out).mono ?_; rintro e w4 ⟨rfl, h4⟩)
    | (go_at_call 45; refine (CV.out _ h4.out).mono ?_; rintro e w5 ⟨rfl, rfl⟩))
  go_loopw [6] (fun i wr => ∃ k : Nat, k ≤ nl ∧ i = .int .i64 (k : Int) ∧ Hid (P wr)) (fun i _ => nl - (intOf i).toNat)
  case atStart => exact ⟨0, by omega, rfl, h4⟩
  case round =>
    obtain ⟨k, hk, rfl, HPr⟩ := hrel
    clear P1 h4 h3 h2 CL CT CU CV
    by_cases hlt : k < nl
    case neg =>
      go_wp2
      go_ret
      exact ⟨rfl, PE.out _ HPr.out⟩
    have hlf : k < a.fs.length := by rw [← HNL.out, ← HNN.out]; exact hlt
    obtain ⟨⟨nm, y⟩, hfx⟩ : ∃ p, a.fs[k]? = some p := ⟨_, List.getElem?_eq_getElem hlf⟩
    have hsk : (tns a)[k]? = some (bsOf nm) := by unfold tns nms; rw [List.getElem?_map, List.getElem?_map, hfx]; rfl
    have hgt : get a.fs (bsOf nm).data.toList = some y := get_at HF.out hfx
    have hsz : (bsOf nm).size ≤ maxLen := HK.out _ (List.mem_of_getElem? hfx)
    obtain ⟨b, off, rfl⟩ : ∃ b off, p = some ⟨b, off, none⟩ := by
      rcases PT.out _ HPr.out with e | ⟨b, off, e, _⟩
      · rw [e] at hsk; simp at hsk
      · exact ⟨b, off, e⟩
    have hce : Hid (∀ W', P W' → W'.cell? ⟨b, off + k, none⟩ = some (.string (bsOf nm))) := fun W' h' => by
      rcases PT.out _ h' with e | ⟨b', off', e, hc⟩
      · rw [e] at hsk; simp at hsk
      · injection e with e; injection e with e1 e2; subst e1 e2; exact hc k _ hsk
    have hyl := HF.out.len hfx
    have hyo : Oct y.b := HF.out.fine.fs.oct _ (List.mem_of_getElem? hfx)
    have CR2 : Hid (∀ W', P W' → Calls Tryz.prog 15 #[.pointer (some ⟨bd, 0, none⟩), .string (bsOf nm)] W' fun e w' => ∃ p c, e = .returned (.tuple #[.slice p y.b.length c, .int .i64 0]) ∧ Hid (Own w' W'.heap.size (.slice p y.b.length c) y.b ∧ P w')) := fun W' h' => by
      have := CR.out W' (bsOf nm) h' hsz
      rw [hgt] at this
      exact this
    have CS2 : Hid (∀ W', P W' → Calls Tryz.prog 40 #[.pointer (some ⟨br, 0, none⟩), .string (bsOf nm)] W' fun e w' => ∃ p c, e = .returned (.tuple #[.slice p y.b.length c, .int .i64 0]) ∧ Hid (Own w' W'.heap.size (.slice p y.b.length c) y.b ∧ Below W'.heap.size W' w')) := fun W' h' => by
      have := CS.out W' (bsOf nm) h'
      rw [hgt] at this
      exact this
    have HY : Hid (Oct y.b) := hyo
    have cw := hce.out _ HPr.out
    have hyl2 : y.b.length ≤ 4294967296 := by omega
    clear CR CS hfx hsk hgt hsz hyo HF HK HNL HNN PT
    generalize bsOf nm = s at *
    go_wp2_with (first
      | (go_at_call 15; refine (CR2.out _ HPr.out).mono ?_; rintro e w6 ⟨p6, c6, rfl, h6⟩; have cw6 := hce.out _ h6.out.2)
      | (go_at_call 40; refine (CS2.out _ h6.out.2).mono ?_; rintro e w7 ⟨p7, c7, rfl, h7⟩)
      | (go_at_call 16; refine (same_big _ _ _ _ y.b hyl2 _ ((own_byt h6.out.1).below h7.out.2) (own_byt h7.out.1) HY.out).mono ?_; rintro e w8 ⟨rfl, q, rfl⟩))
    go_roundw
    case rel => exact ⟨k + 1, by omega, by go_num, PD.out _ _ (PD.out _ _ h6.out.2 h7.out.2) (below_dq _ _)⟩
    case measure => simp [intOf]; omega
end Go.Proofs.YtmpnceicodfifaaGreat
