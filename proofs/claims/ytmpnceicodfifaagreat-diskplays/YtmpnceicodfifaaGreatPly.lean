/-
  The law package's heavy; both disks and an old one; DiskPlays, whole.
-/
import Derived.Test.YtmpnceicodfifaaGreatSto2
namespace Go.Proofs.YtmpnceicodfifaaGreat
open Go.RowKit Go.Maps
set_option linter.unusedVariables false
/-- A step as it came in. -/
structure Sp where
  kind : Int
  n : Int
  A : ByteArray
  T : ByteArray
  a0 : Option Addr
  cap : Nat
  l : List Nat
structure SpOk (w : World) (x : Sp) : Prop where
  byt : Byt w x.a0 x.l
  nil : x.a0 = none → x.cap = 0
  oct : Oct x.l
  n1 : x.n < 9223372036854775808
  A1 : x.A.size ≤ 1152921504606846976
  T1 : x.T.size ≤ 1152921504606846976
  l1 : x.l.length ≤ 1152921504606846976
structure SpAt (w : World) (b o : Nat) (x : Sp) : Prop where
  c0 : w.cell? ⟨b, o, none⟩ = some (.int .i64 x.kind)
  c1 : w.cell? ⟨b, o + 1, none⟩ = some (.int .i64 x.n)
  c2 : w.cell? ⟨b, o + 2, none⟩ = some (.string x.A)
  c3 : w.cell? ⟨b, o + 3, none⟩ = some (.string x.T)
  c4 : w.cell? ⟨b, o + 4, none⟩ = some (.slice x.a0 x.l.length x.cap)
/-- A script as it came in. -/
def Scr (w : World) (a : Option Addr) (ss : List Sp) : Prop := ss = [] ∨ ∃ b off, a = some ⟨b, off, none⟩ ∧ ∀ k x, ss[k]? = some x → SpAt w b (off + k * 5) x
theorem Scr.at {w : World} {a : Option Addr} {ss : List Sp} (h : Scr w a ss) {k : Nat} (hk : k < ss.length) : ∃ b off, a = some ⟨b, off, none⟩ ∧ SpAt w b (off + k * 5) ss[k] := by
  rcases h with e | ⟨b, off, e, hc⟩
  · rw [e] at hk; simp at hk
  · exact ⟨b, off, e, hc k _ (List.getElem?_eq_getElem hk)⟩
set_option maxRecDepth 8000 in
set_option maxHeartbeats 2000000 in
theorem heavy_any (a : Option Addr) (c : Nat) (ss : List Sp) (hs : ss.length ≤ 1152921504606846976) (w : World) (h : Scr w a ss) (ho : ∀ x ∈ ss, SpOk w x) :
    Calls Tryz.prog 4 #[.slice a ss.length c] w fun e w' => ∃ t, e = .returned (.bool t) ∧ Hid ((t = false → ∀ k x, k < 120 → ss[k]? = some x → x.l.length ≤ 8000) ∧ Below w.heap.size w w') := by
  have HH : Hid (Scr w a ss) := h
  have HO : Hid (∀ x ∈ ss, SpOk w x) := ho
  clear h ho
  go_enter Tryz.func4, Tryz.ntmps4
  go_wp2
  go_loopw [3, 4] (fun n i wr => ∃ k t q : Nat, k ≤ ss.length ∧ t ≤ 8000 ∧ i = .int .i64 (k : Int) ∧ n = .int .i64 (t : Int) ∧ wr = w.drewN q ∧ Hid (∀ j x, j < k → ss[j]? = some x → x.l.length ≤ 8000)) (fun _ i _ => ss.length - (intOf i).toNat)
  case atStart => exact ⟨0, 0, 0, by omega, by omega, rfl, rfl, rfl, fun j x hj => by omega⟩
  case round =>
    obtain ⟨k, t, q, hk, ht, rfl, rfl, rfl, HJ⟩ := hrel
    by_cases hlt : k < ss.length
    case neg =>
      have hdl : decide ((k : Int) < (ss.length : Int)) = false := by simp; omega
      go_wp2
      go_ret
      exact ⟨false, rfl, fun _ j x hj hx => HJ.out j x (by have := (List.getElem?_eq_some_iff.1 hx).1; omega) hx, below_dq _ _⟩
    have hdl : decide ((k : Int) < (ss.length : Int)) = true := by simpa using hlt
    by_cases h120 : k < 120
    case neg =>
      have hd2 : decide ((k : Int) < 120) = false := by simp; omega
      go_wp2
      go_ret
      exact ⟨false, rfl, fun _ j x hj hx => HJ.out j x (by omega) hx, below_dq _ _⟩
    have hd2 : decide ((k : Int) < 120) = true := by simp; omega
    obtain ⟨b, off, rfl, hx⟩ := HH.out.at hlt
    have hok := HO.out _ (List.getElem_mem hlt)
    have hxk := List.getElem?_eq_getElem hlt
    generalize ss[k] = x at hx hok hxk
    have c2 : (w.drewN q).cell? ⟨b, off + k * 5 + 2, none⟩ = some (.string x.A) := hx.c2
    have c3 : (w.drewN q).cell? ⟨b, off + k * 5 + 3, none⟩ = some (.string x.T) := hx.c3
    have c4 : (w.drewN q).cell? ⟨b, off + k * 5 + 4, none⟩ = some (.slice x.a0 x.l.length x.cap) := hx.c4
    have a1 := hok.A1
    have t1 := hok.T1
    have l1 := hok.l1
    have HX : Hid (ss[k]? = some x) := hxk
    clear hx hok hxk HH HO
    have HQ : Hid (∀ m, (w.drewN q).drewN m = w.drewN (q + m)) := fun m => World.drewN_drewN _ _ _
    have HD : Hid (Below w.heap.size w (w.drewN q)) := below_dq _ _
    generalize hA : x.A.size = sA at *
    generalize hT : x.T.size = sT at *
    generalize hl : x.l.length = sl at *
    have HLL : Hid (x.l.length = sl) := hl
    generalize hWq : w.drewN q = W at *
    clear hl hWq
    by_cases hbig : (8000 : Int) < (t : Int) + sA + sT + sl
    · go_wp2
      go_quiet (fail)
      go_wp2
      go_ret
      refine ⟨true, rfl, (fun e => by cases e), ?_⟩
      rw [HQ.out]
      exact below_dq _ _
    · go_wp2
      go_quiet (fail)
      go_wp2
      go_roundw
      case rel =>
        refine ⟨k + 1, t + sA + sT + sl, q + nq, by omega, by omega, by go_num, by go_num, HQ.out _, fun j y hj hy => ?_⟩
        by_cases e : j = k
        · subst e
          have e2 := HX.out
          rw [hy] at e2
          rw [Option.some.inj e2, HLL.out]
          omega
        · exact HJ.out j y (by omega) hy
      case measure => simp [intOf]; omega
def X0 : Nat → Prop := fun _ => False
/-- An old disk beside both. -/
def Tri (w0 : World) (B bd bn br : Nat) (a1 a2 : Ab) (W : World) : Prop :=
  ∃ S S1 R aO, Disk W bd S aO ∧ Disk W bn S1 a1 ∧ Ref W br R a2 ∧ (∀ i, S i → ¬ S1 i ∧ ¬ R i) ∧ (∀ i, S1 i → ¬ R i) ∧ (∀ i, S i → B ≤ i) ∧ (∀ i, S1 i → B ≤ i) ∧ (∀ i, R i → B ≤ i) ∧ B ≤ W.heap.size ∧ Kept (fun i => B ≤ i) w0 W
theorem Tri.two {w0 : World} {B bd bn br : Nat} {a1 a2 : Ab} {W : World} (h : Tri w0 B bd bn br a1 a2 W) : Two w0 B X0 bn br a1 a2 W := by
  obtain ⟨S, S1, R, aO, h1, h2, h3, h4, h5, h6, h7, h8, h9, h10⟩ := h
  exact ⟨S1, R, h2, h3, h5, fun i hi => ⟨h7 i hi, fun e => e⟩, fun i hi => ⟨h8 i hi, fun e => e⟩, h9, fun i hi => hi.elim, h10.mono fun i _ e => ⟨e, fun e => e⟩⟩
theorem Tri.old {w0 : World} {B bd bn br : Nat} {a1 a2 : Ab} {W : World} (h : Tri w0 B bd bn br a1 a2 W) : ∃ S aO, Disk W bd S aO ∧ ∀ W' S' a', Disk W' bd S' a' → Went W W' S S' → Tri w0 B bd bn br a1 a2 W' := by
  obtain ⟨S, S1, R, aO, h1, h2, h3, h4, h5, h6, h7, h8, h9, h10⟩ := h
  refine ⟨S, aO, h1, fun W' S' a' hd' hw => ⟨S', S1, R, a', hd', h2.keptBy hw.kept (fun i hi e => (h4 i e).1 hi), h3.keptBy hw.kept (fun i hi e => (h4 i e).2 hi), fun i hi => ?_, h5, fun i hi => ?_, h7, h8, Nat.le_trans h9 hw.kept.size, h10.trans hw.kept (fun i _ e => h6 i e)⟩⟩
  · rcases hw.new i hi with e | e
    · exact h4 i e
    · exact ⟨fun e2 => by have := h2.lt e2; omega, fun e2 => by have := h3.lt e2; omega⟩
  · rcases hw.new i hi with e | e
    · exact h6 i e
    · omega
theorem Tri.below {w0 : World} {B bd bn br : Nat} {a1 a2 : Ab} {W W' : World} (h : Tri w0 B bd bn br a1 a2 W) (hb : Below W.heap.size W W') : Tri w0 B bd bn br a1 a2 W' := by
  obtain ⟨S, aO, hd, hn⟩ := h.old
  have k : Kept (fun _ => False) W W' := Kept.of_below hb
  exact hn _ _ _ (hd.keptBy k (fun _ _ h => h)) (Went.of_kept k (fun _ _ h => h.elim))
theorem copy_two {w0 : World} {B bd br : Nat} {a : Ab} {W : World} (h : Two w0 B X0 bd br a a W) :
    Calls Tryz.prog 8 #[.pointer (some ⟨bd, 0, none⟩)] W fun e w' => ∃ bn, e = .returned (.pointer (some ⟨bn, 0, none⟩)) ∧ Hid (Tri w0 B bd bn br ⟨a.room, -1, a.fs⟩ a w') := by
  obtain ⟨S, R, hd, hr, hap, hS, hR, hB, hX, hk⟩ := h
  refine (copy_disk hd).mono ?_
  rintro e w' ⟨bn, S1, rfl, hp⟩
  obtain ⟨q1, q2, q3, q4⟩ := hp.out
  refine ⟨bn, rfl, S, S1, R, a, q3, q1, hr.keptBy q4 (fun i hi e => hap i e hi), fun i hi => ⟨fun e => ?_, hap i hi⟩, fun i hi e => ?_, fun i hi => (hS i hi).1, fun i hi => ?_, fun i hi => (hR i hi).1, Nat.le_trans hB q4.size, (hk.mono fun i _ e => e.1).trans q4 (fun i _ e => (hS i e).1)⟩
  · have := hd.lt hi; have := q2 i e; omega
  · have := q2 i hi; have := hr.lt e; omega
  · have := q2 i hi; omega
theorem rcopy_two {w0 : World} {B bd bn br : Nat} {a1 a : Ab} {W : World} (hl : Lim a) (h : Tri w0 B bd bn br a1 a W) :
    Calls Tryz.prog 9 #[.pointer (some ⟨br, 0, none⟩)] W fun e w' => ∃ br2, e = .returned (.pointer (some ⟨br2, 0, none⟩)) ∧ Hid (Tri w0 B bd bn br2 a1 ⟨a.room, -1, a.fs⟩ w') := by
  obtain ⟨S, S1, R, aO, h1, h2, h3, h4, h5, h6, h7, h8, h9, h10⟩ := h
  refine (rcopy_any h3 hl).mono ?_
  rintro e w' ⟨br2, R2, rfl, q1, q2, q3⟩
  have k : Kept (fun _ => False) W w' := Kept.of_below q3
  refine ⟨br2, rfl, S, S1, R2, aO, h1.keptBy k (fun _ _ h => h), h2.keptBy k (fun _ _ h => h), q1, fun i hi => ⟨(h4 i hi).1, fun e => ?_⟩, fun i hi e => ?_, h6, h7, fun i hi => ?_, Nat.le_trans h9 q3.size, h10.trans k (fun _ _ h => h.elim)⟩
  · have := h1.lt hi; have := q2 i e; omega
  · have := h2.lt hi; have := q2 i e; omega
  · have := q2 i hi; omega
theorem Two.scr {w0 : World} {bd br : Nat} {a1 a2 : Ab} {W : World} (h : Two w0 w0.heap.size X0 bd br a1 a2 W) : Below w0.heap.size w0 W := by
  obtain ⟨_, _, _, _, _, _, _, _, _, hk⟩ := h
  exact ⟨hk.os, hk.tape, hk.output, hk.size, fun i hi => hk.block i hi (fun e => by omega)⟩
theorem SpAt.below {w w' : World} {b o : Nat} {x : Sp} (h : SpAt w b o x) (hb : Below w.heap.size w w') : SpAt w' b o x :=
  ⟨(hb.cell (p := ⟨b, o, none⟩) (cell_lt h.c0)).trans h.c0, (hb.cell (p := ⟨b, o + 1, none⟩) (cell_lt h.c1)).trans h.c1, (hb.cell (p := ⟨b, o + 2, none⟩) (cell_lt h.c2)).trans h.c2, (hb.cell (p := ⟨b, o + 3, none⟩) (cell_lt h.c3)).trans h.c3, (hb.cell (p := ⟨b, o + 4, none⟩) (cell_lt h.c4)).trans h.c4⟩
theorem two_new {w w1 w2 : World} {bd br : Nat} {S R : Nat → Prop} {a : Ab} (hd : Disk w1 bd S a) (hS : ∀ i, S i → w.heap.size ≤ i) (hb : Below w.heap.size w w1) (hr : Ref w2 br R a) (hR : ∀ i, R i → w1.heap.size ≤ i) (hb2 : Below w1.heap.size w1 w2) : Two w w.heap.size X0 bd br a a w2 := by
  have k : Kept (fun _ => False) w1 w2 := Kept.of_below hb2
  have hs := hb.size
  refine ⟨S, R, hd.keptBy k (fun _ _ h => h), hr, fun i hi e => ?_, fun i hi => ⟨hS i hi, fun e => e⟩, fun i hi => ⟨by have := hR i hi; omega, fun e => e⟩, Nat.le_trans hs hb2.size, fun i hi => hi.elim, ?_⟩
  · have := hd.lt hi; have := hR i e; omega
  · exact (Kept.of_below (S := fun i => w.heap.size ≤ i ∧ ¬ X0 i) (hb.trans (hb2.mono hs)))
theorem known_b {w W : World} (hb : Below w.heap.size w W) : Calls Tryz.prog 5 #[] W fun e w' => e = .returned (.bool true) ∧ Hid (Below w.heap.size w w') := by
  refine (known_any W).mono ?_
  rintro e w' ⟨rfl, h⟩
  exact ⟨rfl, hb.trans (h.mono hb.size)⟩
set_option maxRecDepth 100000 in
set_option maxHeartbeats 4000000 in
theorem plays_any (room : Int) (a : Option Addr) (c : Nat) (ss : List Sp) (hs : ss.length ≤ 1152921504606846976) (w : World) (h : Scr w a ss) (ho : ∀ x ∈ ss, SpOk w x) :
    Calls Tryz.prog 3 #[.int .i64 room, .slice a ss.length c] w fun e w' => e = .returned (.bool true) ∧ Below w.heap.size w w' := by
  have HV : Hid (Calls Tryz.prog 4 #[.slice a ss.length c] w fun e w' => ∃ t, e = .returned (.bool t) ∧ Hid ((t = false → ∀ k x, k < 120 → ss[k]? = some x → x.l.length ≤ 8000) ∧ Below w.heap.size w w')) := heavy_any a c ss hs w h ho
  have HH : Hid (Scr w a ss) := h
  have HO : Hid (∀ x ∈ ss, SpOk w x) := ho
  clear h ho
  go_enter Tryz.func3, Tryz.ntmps3
  go_wp2_with fail
  refine HV.out.mono ?_
  rintro e w1 ⟨t, rfl, h1⟩
  clear HV
  obtain ⟨ht, b1⟩ := h1.out
  have B1 : Hid (Below w.heap.size w w1) := b1
  clear h1 b1
  cases t with
  | true =>
    go_wp2_with (go_at_call 5; refine (known_b B1.out).mono ?_; rintro e w2 ⟨rfl, h2⟩)
    go_ret
    exact ⟨rfl, h2.out⟩
  | false =>
    have HL : Hid (∀ k x, k < 120 → ss[k]? = some x → x.l.length ≤ 8000) := ht rfl
    clear ht
    by_cases hbad : room < 0 ∨ 1073741824 < room
    · have heq : ∀ W, (binOp .eql 25 (.pointer none) (.pointer none)).run Tryz.prog W = .ok (.bool true) W := fun W => by kernel_rfl
      go_wp2_with (first
        | (go_at_call 6; refine (new_bad room w1 hbad).mono ?_; rintro e w2 ⟨rfl, rfl⟩)
        | (go_at_call 7; refine (rnew_bad room _ hbad).mono ?_; rintro e w3 ⟨rfl, rfl⟩)
        | (go_at_call 5; refine (known_b B1.out).mono ?_; rintro e w4 ⟨rfl, h4⟩))
      go_ret
      exact ⟨rfl, h4.out⟩
    · have hr0 : 0 ≤ room := by omega
      have hr1 : room ≤ 1073741824 := by omega
      clear hbad
      have CN : Hid (Calls Tryz.prog 6 #[.int .i64 room] w1 fun e w' => ∃ bd, e = .returned (.tuple #[.pointer (some ⟨bd, 0, none⟩), .int .i64 0]) ∧ Hid (∃ S, Disk w' bd S ⟨room, -1, []⟩ ∧ (∀ i, S i → w.heap.size ≤ i) ∧ Below w.heap.size w w')) := by
        refine (new_any room w1 hr0 hr1).mono ?_
        rintro e w' ⟨bd, S, rfl, q1, q2, q3⟩
        exact ⟨bd, rfl, S, q1, fun i hi => Nat.le_trans B1.out.size (q2 i hi), B1.out.trans (q3.mono B1.out.size)⟩
      have CM : Hid (∀ bd W, (∃ S, Disk W bd S ⟨room, -1, []⟩ ∧ (∀ i, S i → w.heap.size ≤ i) ∧ Below w.heap.size w W) → Calls Tryz.prog 7 #[.int .i64 room] W fun e w' => ∃ br, e = .returned (.tuple #[.pointer (some ⟨br, 0, none⟩), .int .i64 0]) ∧ Hid (Two w w.heap.size X0 bd br ⟨room, -1, []⟩ ⟨room, -1, []⟩ w')) := fun bd W ⟨S, q1, q2, q3⟩ => by
        refine (rnew_any room W hr0 hr1).mono ?_
        rintro e w' ⟨br, R, rfl, r1, r2, r3⟩
        exact ⟨br, rfl, two_new q1 q2 q3 r1 r2 r3⟩
      have heq : ∀ W b, (binOp .eql 25 (.pointer (some ⟨b, 0, none⟩)) (.pointer none)).run Tryz.prog W = .ok (.bool false) W := fun W b => by kernel_rfl
      go_wp2_with (first
        | (go_at_call 6; refine CN.out.mono ?_; rintro e w2 ⟨bd, rfl, h2⟩)
        | (go_at_call 7; refine (CM.out _ _ h2.out).mono ?_; rintro e w3 ⟨br, rfl, h3⟩))
      clear CN CM h2 B1 hr0 hr1
      go_loopw [5, 7, 9] (fun d r i wr => ∃ (k bd br : Nat) (a' : Ab), k ≤ ss.length ∧ d = .pointer (some ⟨bd, 0, none⟩) ∧ r = .pointer (some ⟨br, 0, none⟩) ∧ i = .int .i64 (k : Int) ∧ Hid (Two w w.heap.size X0 bd br a' a' wr)) (fun _ _ i _ => ss.length - (intOf i).toNat)
      case atStart => exact ⟨0, bd, br, _, by omega, rfl, rfl, rfl, h3⟩
      case round =>
        obtain ⟨k, bd, br, a', hk, rfl, rfl, rfl, HP⟩ := hrel
        clear h3
        by_cases hlt : k < ss.length
        case neg =>
          have hdl : decide ((k : Int) < (ss.length : Int)) = false := by simp; omega
          go_wp2_with (go_at_call 5; refine (known_b HP.out.scr).mono ?_; rintro e w4 ⟨rfl, h4⟩)
          go_ret
          exact ⟨rfl, h4.out⟩
        have hdl : decide ((k : Int) < (ss.length : Int)) = true := by simpa using hlt
        by_cases h120 : k < 120
        case neg =>
          have hd2 : decide ((k : Int) < 120) = false := by simp; omega
          go_wp2_with (go_at_call 5; refine (known_b HP.out.scr).mono ?_; rintro e w4 ⟨rfl, h4⟩)
          go_ret
          exact ⟨rfl, h4.out⟩
        have hd2 : decide ((k : Int) < 120) = true := by simp; omega
        obtain ⟨b, off, rfl, hx⟩ := HH.out.at hlt
        have hok := HO.out _ (List.getElem_mem hlt)
        have hll := HL.out k _ h120 (List.getElem?_eq_getElem hlt)
        generalize ss[k] = x at hx hok hll
        have hx' := hx.below HP.out.scr
        obtain ⟨c0, c1, c2, c3, c4⟩ := hx'
        have HX : Hid (SpOk w x ∧ x.l.length ≤ 8000) := ⟨hok, hll⟩
        clear hok hll hx
        by_cases h8 : x.kind = 8
        · have h8' : (x.kind == 8) = true := by simpa using h8
          have hl := HP.out.lim
          have CC : Hid (Calls Tryz.prog 8 #[.pointer (some ⟨bd, 0, none⟩)] wr fun e w' => ∃ bn, e = .returned (.pointer (some ⟨bn, 0, none⟩)) ∧ Hid (Tri w w.heap.size bd bn br ⟨a'.room, -1, a'.fs⟩ a' w')) := copy_two HP.out
          have CD : Hid (∀ bn W, Tri w w.heap.size bd bn br ⟨a'.room, -1, a'.fs⟩ a' W → Calls Tryz.prog 9 #[.pointer (some ⟨br, 0, none⟩)] W fun e w' => ∃ br2, e = .returned (.pointer (some ⟨br2, 0, none⟩)) ∧ Hid (Tri w w.heap.size bd bn br2 ⟨a'.room, -1, a'.fs⟩ ⟨a'.room, -1, a'.fs⟩ w')) := fun bn W h' => rcopy_two hl h'
          have CA : Hid (∀ bn br2 W, Tri w w.heap.size bd bn br2 ⟨a'.room, -1, a'.fs⟩ ⟨a'.room, -1, a'.fs⟩ W → Calls Tryz.prog 10 #[.pointer (some ⟨bd, 0, none⟩), .string { data := #[115, 112, 111, 105, 108, 116] }, .slice (some ⟨W.heap.size, 0, none⟩) 1 1] (W.alloc (.cells #[.int .u8 120] 5 (1, 2))) fun e w' => ∃ err, e = .returned (.int .i64 err) ∧ Hid (Tri w w.heap.size bd bn br2 ⟨a'.room, -1, a'.fs⟩ ⟨a'.room, -1, a'.fs⟩ w')) := fun bn br2 W h' => by
            obtain ⟨S, aO, hd, hn⟩ := h'.old
            refine (append_disk (hd.alloc (.cells #[.int .u8 120] 5 (1, 2))) ⟨#[115, 112, 111, 105, 108, 116]⟩ _ 1 [120] (src_lit hd [120] (by unfold Oct; decide) 1 (1, 2))).mono ?_
            rintro e w' ⟨rfl, S', d', g'⟩
            exact ⟨_, rfl, hn _ _ _ d' ((Went.of_kept (Kept.alloc (fun _ => False) W _) (fun _ _ h => h.elim)).trans g')⟩
          have CE : Hid (∀ bn br2 W, Tri w w.heap.size bd bn br2 ⟨a'.room, -1, a'.fs⟩ ⟨a'.room, -1, a'.fs⟩ W → Calls Tryz.prog 11 #[.pointer (some ⟨bd, 0, none⟩), .int .i64 0] W fun e w' => e = .returned (.tuple #[]) ∧ Hid (Two w w.heap.size X0 bn br2 ⟨a'.room, -1, a'.fs⟩ ⟨a'.room, -1, a'.fs⟩ w')) := fun bn br2 W h' => by
            obtain ⟨S, aO, hd, hn⟩ := h'.old
            refine (crash_disk hd 0).mono ?_
            rintro e w' ⟨rfl, S', d', g'⟩
            exact ⟨rfl, (hn _ _ _ d' g').two⟩
          have hcv := conv_same
          clear hl HP
          go_wp2_with (first
            | (go_at_call 8; refine CC.out.mono ?_; rintro e w5 ⟨bn, rfl, h5⟩)
            | (go_at_call 9; refine (CD.out _ _ h5.out).mono ?_; rintro e w6 ⟨br2, rfl, h6⟩)
            | (go_at_call 10; refine (CA.out _ _ _ h6.out).mono ?_; rintro e w7 ⟨err, rfl, h7⟩)
            | (go_at_call 11; refine (CE.out _ _ _ h7.out).mono ?_; rintro e w8 ⟨rfl, h8w⟩))
          go_roundw
          case rel => exact ⟨k + 1, bn, br2, _, by omega, rfl, rfl, by go_num, h8w⟩
          case measure => simp [intOf]; omega
        · have h8' : (x.kind == 8) = false := by simpa using h8
          obtain ⟨hok, hll⟩ := HX.out
          have sc := HP.out.scr
          have CG : Hid (Calls Tryz.prog 12 #[.pointer (some ⟨bd, 0, none⟩), .pointer (some ⟨br, 0, none⟩), .agg #[.int .i64 x.kind, .int .i64 x.n, .string x.A, .string x.T, .slice x.a0 x.l.length x.cap]] wr fun e w' => e = .returned (.bool true) ∧ ∃ a2, Hid (Two w w.heap.size X0 bd br a2 a2 w')) := by
            refine (does_any HP.out x.kind x.n hok.n1 x.A x.T (by have := hok.A1; unfold maxLen; omega) x.a0 x.cap x.l (hok.byt.below sc) (fun b off e hl => ?_) hok.nil hll hok.oct).mono ?_
            · rcases hok.byt with h0 | ⟨b', off', e', hc⟩
              · exact (hl h0).elim
              · rw [e] at e'
                injection e' with e'
                injection e' with e1 e2
                have := hc 0 (List.length_pos_iff.2 hl)
                rw [e1]
                exact cell_lt this
            · rintro e w' ⟨rfl, a2, h2⟩
              exact ⟨rfl, a2, h2⟩
          have CH : Hid (∀ a2 W, Two w w.heap.size X0 bd br a2 a2 W → Calls Tryz.prog 13 #[.pointer (some ⟨bd, 0, none⟩), .pointer (some ⟨br, 0, none⟩)] W fun e w' => e = .returned (.bool true) ∧ Hid (Two w w.heap.size X0 bd br a2 a2 w')) := fun a2 W h' => stood_any h'
          clear hok hll sc HP HX
          go_wp2_with (first
            | (go_at_call 12; refine CG.out.mono ?_; rintro e w5 ⟨rfl, a2, h5⟩)
            | (go_at_call 13; refine (CH.out _ _ h5.out).mono ?_; rintro e w6 ⟨rfl, h6⟩))
          go_roundw
          case rel => exact ⟨k + 1, bd, br, a2, by omega, rfl, rfl, by go_num, h6⟩
          case measure => simp [intOf]; omega
#print axioms plays_any
end Go.Proofs.YtmpnceicodfifaaGreat
