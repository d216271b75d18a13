/-
  The contracts of value's isFormed and isNamed.
-/
import Derived.Test.YtoggcabenjmnoaaDoorChk
namespace Go.Proofs.YtoggcabenjmnoaaDoor
open Go.RowKit
set_option linter.unusedVariables false
theorem box_get {w w' : World} (vs : List Value) (t : TypeId) (hb : Below (w.alloc (.cells vs.toArray t)).heap.size (w.alloc (.cells vs.toArray t)) w') (j : Nat) (v : Value) (hv : vs[j]? = some v) : w'.cell? ⟨w.heap.size, j, none⟩ = some v := by
  rw [hb.cell (p := ⟨w.heap.size, j, none⟩) (by simp), World.cell?_alloc_new, List.getElem?_toArray, hv]
theorem box_below {w w' : World} (o : Obj) (hb : Below (w.alloc o).heap.size (w.alloc o) w') : Below w.heap.size w w' :=
  ((Below.refl _ _).alloc (Nat.le_refl _) _).trans (hb.mono (by simp))
def formed (h : Hd) (kl : Nat) : Bool :=
  if h.k = 1 then only h kl 0
  else if h.k = 2 then only h kl 1 && (h.n == 0 || h.n == 1)
  else if h.k = 3 then only h kl 1
  else if h.k = 4 then only h kl 3 && decide (1 ≤ h.s) && decide (h.s ≤ 18) && (h.n.tmod 10 != 0)
  else if h.k = 5 then only h kl 1 && decide (0 ≤ h.n) && decide (h.n ≤ 9007199254740992)
  else if h.k = 6 then only h kl 4
  else if h.k = 7 then only h kl 4
  else if h.k = 8 then only h kl 16
  else if h.k = 9 then only h kl 24
  else false
set_option maxRecDepth 8000 in
set_option maxHeartbeats 2000000 in
theorem formed_any (h : Hd) (na : Option Addr) (nc : Nat) (ka : Option Addr) (kl kc : Nat) (w : World) :
    Calls Tryd.prog 31 #[.agg #[.int .i64 h.k, .int .i64 h.n, .int .i64 h.s, .string h.t, .slice na h.ns.length nc, .slice ka kl kc]] w fun e w' => e = .returned (.bool (formed h kl)) ∧ Below w.heap.size w w' := by
  go_enter Tryd.func31, Tryd.ntmps31
  go_wp2_with (go_at_call 40; go_must (refine (only_any h na nc ka kl kc _ (by simp) _).mono ?_; rintro e w' ⟨rfl, hb⟩; have c1 := box_get (six h na nc ka kl kc) 34 hb 1 _ rfl; have c2 := box_get (six h na nc ka kl kc) 34 hb 2 _ rfl; have HB : Hid (Below w.heap.size w w') := box_below _ hb; clear hb))
  all_goals
    go_ret
    refine ⟨?_, by first | exact HB.out | exact (Below.refl _ _).alloc (Nat.le_refl _) _⟩
    simp_all [formed] <;> (intros; omega)
def rises : ByteArray → List ByteArray → Bool
  | _, [] => true
  | l, x :: r => !(Op.bytesLess x.toList l.toList || x.toList == l.toList) && !(decide (40 < x.size)) && rises x r
def named (ns : List ByteArray) (kl : Nat) : Bool := decide (ns.length = kl) && rises ⟨#[]⟩ ns
set_option maxRecDepth 8000 in
set_option maxHeartbeats 2000000 in
theorem named_any (h : Hd) (na : Option Addr) (nc : Nat) (ka : Option Addr) (kl kc : Nat) (w : World) (hn : Nms w na h.ns) (hl : h.ns.length ≤ 140737488355328) (he : ∀ x ∈ h.ns, x.size ≤ 140737488355328) :
    Calls Tryd.prog 32 #[.agg #[.int .i64 h.k, .int .i64 h.n, .int .i64 h.s, .string h.t, .slice na h.ns.length nc, .slice ka kl kc]] w fun e w' => e = .returned (.bool (named h.ns kl)) ∧ Below w.heap.size w w' := by
  have HN : Hid (Nms w na h.ns) := hn
  clear hn
  go_enter Tryd.func32, Tryd.ntmps32
  by_cases hE : h.ns.length = kl
  case neg =>
    have hd : ((h.ns.length : Int) != (kl : Int)) = true := by simp; omega
    go_wp2
    go_ret
    exact ⟨by simp [named, hE], (Below.refl _ _).alloc (Nat.le_refl _) _⟩
  subst hE
  go_wp2
  have HN1 : Hid (Nms (w.alloc (.cells #[.int .i64 h.k, .int .i64 h.n, .int .i64 h.s, .string h.t, .slice na h.ns.length nc, .slice ka h.ns.length kc] 34)) na h.ns) := HN.out.below ((Below.refl _ _).alloc (Nat.le_refl _) _)
  have HB : Hid (Below w.heap.size w (w.alloc (.cells #[.int .i64 h.k, .int .i64 h.n, .int .i64 h.s, .string h.t, .slice na h.ns.length nc, .slice ka h.ns.length kc] 34))) := (Below.refl _ _).alloc (Nat.le_refl _) _
  generalize w.alloc (.cells #[.int .i64 h.k, .int .i64 h.n, .int .i64 h.s, .string h.t, .slice na h.ns.length nc, .slice ka h.ns.length kc] 34) = w1 at *
  go_loopw [3, 5, 16] (fun l x i wr => ∃ k : Nat, k ≤ h.ns.length ∧ i = .int .i64 (k : Int) ∧ ∃ last, l = .string last ∧ wr = w1 ∧ Hid (named h.ns h.ns.length = rises last (h.ns.drop k))) (fun _ _ i _ => h.ns.length - (intOf i).toNat)
  case atStart => exact ⟨0, by omega, rfl, _, rfl, rfl, by show _ = _; simp [named]⟩
  case round =>
    obtain ⟨k, hk, rfl, last, rfl, rfl, HR⟩ := hrel
    by_cases hlt : k < h.ns.length
    case neg =>
      go_wp2
      go_ret
      exact ⟨by rw [HR.out, List.drop_of_length_le (by omega)]; rfl, HB.out⟩
    obtain ⟨x, hx⟩ : ∃ x, h.ns[k]? = some x := ⟨_, List.getElem?_eq_getElem hlt⟩
    have hxs : x.size ≤ 140737488355328 := he x (List.mem_of_getElem? hx)
    have HD : Hid (h.ns.drop k = x :: h.ns.drop (k + 1)) := by
      have := List.drop_eq_getElem_cons hlt
      rw [List.getElem?_eq_getElem hlt] at hx
      show _ = _
      rw [this, Option.some.inj hx]
    rcases HN1.out with e | ⟨b, o, rfl, hc⟩
    · simp [e] at hlt
    have c := hc k x hx
    clear hc hx
    cases hA : Op.bytesLess x.toList last.toList <;> cases hB : (x.toList == last.toList) <;> by_cases hC : 40 < x.size
    rotate_left
    · go_wp2
      go_roundw
      case rel =>
        refine ⟨k + 1, by omega, by go_num, x, rfl, trivial, ?_⟩
        show _ = _
        rw [HR.out, HD.out]
        simp [rises, hA, hB, hC]
      case measure => simp [intOf]; omega
    all_goals
      go_wp2
      go_ret
      exact ⟨by rw [HR.out, HD.out]; simp [rises, hA, hB, hC], HB.out⟩
def own (h : Hd) (kl : Nat) : Int := if formed h kl = true then (if 16384 < h.t.size ∨ 200 < kl then 5 else if h.k = 9 ∧ named h.ns kl = false then 3 else 0) else 3
/-- The first error of values that stand so deep. -/
def chk : Fo → Int → Int
  | .nil, _ => 0
  | .cons h k r, d => if (if 16 < d then 9 else if own h k.list.length ≠ 0 then own h k.list.length else chk k (d + 1)) ≠ 0 then (if 16 < d then 9 else if own h k.list.length ≠ 0 then own h k.list.length else chk k (d + 1)) else chk r d
def chkV (p : Vt) (d : Int) : Int := if 16 < d then 9 else if own p.1 p.2.list.length ≠ 0 then own p.1 p.2.list.length else chk p.2 (d + 1)
theorem chk_cons (p : Vt) (r : Fo) (d : Int) : chk (.cons p.1 p.2 r) d = if chkV p d ≠ 0 then chkV p d else chk r d := rfl
def Fo.drop : Nat → Fo → Fo
  | 0, f => f
  | _ + 1, .nil => .nil
  | n + 1, .cons _ _ r => Fo.drop n r
theorem Fo.drop_at : ∀ (f : Fo) (i : Nat) (p : Vt), f.list[i]? = some p → f.drop i = .cons p.1 p.2 (f.drop (i + 1))
  | .nil, i, p, h => by simp [Fo.list] at h
  | .cons hd k r, 0, p, h => by
    simp only [Fo.list, List.getElem?_cons_zero, Option.some.injEq] at h
    subst h
    cases r <;> rfl
  | .cons hd k r, i + 1, p, h => by
    simp only [Fo.list, List.getElem?_cons_succ] at h
    have := Fo.drop_at r i p h
    simp only [Fo.drop]
    exact this
theorem Fo.drop_end : ∀ (f : Fo) (i : Nat), f.list.length ≤ i → f.drop i = .nil
  | .nil, 0, _ => rfl
  | .nil, i + 1, _ => rfl
  | .cons hd k r, 0, h => by simp [Fo.list] at h
  | .cons hd k r, i + 1, h => Fo.drop_end r i (by simpa [Fo.list] using h)
end Go.Proofs.YtoggcabenjmnoaaDoor
