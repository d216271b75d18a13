/-
  merkle.half.others: the halves that stand beside a way.
-/
import Derived.Test.YtfkiciejipcgkaaDoorEf
import Derived.WalkSmall
namespace Go.Proofs.YtfkiciejipcgkaaDoor
open Go.RowKit Sh
section
variable {α : Type} {enc : α → List Value} {n : Nat} {w w' : World} {L : List α} {t : TypeId} {base : Nat} {v : Value}
theorem below_grown (g : Below w.heap.size w w') : w.grownBy w' none := ⟨g.os, g.tape, g.output, g.size, fun k hk _ => g.block k hk⟩
theorem OwE.grow (h : OwE enc t n w base v L) (g : Below w.heap.size w w') : OwE enc t n w' base v L := h.kept (below_grown g) (by intro k _; simp)
theorem OwE.alloc (h : OwE enc t n w base v L) (o : Obj) : OwE enc t n (w.alloc o) base v L := h.grow ((Below.refl _ _).alloc (Nat.le_refl _) o)
theorem owe_nil (enc : α → List Value) (t : TypeId) (n : Nat) (w : World) (base : Nat) : OwE enc t n w base (.slice none 0 0) [] := ⟨World.ownsRow_nil w base t n, by simp⟩
theorem es_lit (w : World) (t : TypeId) (x : α) : ES enc n (w.alloc (.cells (enc x).toArray t)) (some ⟨w.heap.size, 0, none⟩) [x] := by
  refine .inr ⟨_, _, rfl, fun i y hy => ?_⟩
  cases i with
  | succ i => simp at hy
  | zero =>
    simp at hy
    subst hy
    rw [Nat.zero_mul, Nat.zero_add]
    exact (blk_new w t (enc x)).all
theorem below_own {B : Nat} {w0 : World} (hb : Below B w0 w) (hB : B ≤ w.heap.size) (h : OwE enc t n w B v L) (hg : w.grownBy w' v.ownBlock) : Below B w0 w' :=
  Below.grown hb hg hB fun k hk => (h.1.lt k hk).1
end
section
variable {ops : Array Oper} {rest : List Oper} {o : Oper} {a : Act} {w : World} {Q : Exit → Act → World → Prop}
theorem app_wl {α : Type} {enc : α → List Value} {n : Nat} (hgd : o.guard = none) (s x : Operand) (t e : TypeId) (ho : o.op = .call { callee := .builtin .append, args := #[s, x], argTypes := #[t, t] }) (ht : Tryd.prog.underlying t = some (.slice e)) (z : List Value) (bytes : Nat)
    (hi : (Tryd.prog.info? e).map (fun i => (i.zero, i.size, i.bytes)) = some (some (.agg z.toArray), n, bytes)) (hz : z.length = n) (hn : 0 < n) (hb : bytes ≤ 1000) (base : Nat) (v : Value) (L M : List α) (hs : a.eval s = v) (hown : OwE enc e n w base v L) (ad : Option Addr) (cap : Nat) (hx : a.eval x = .slice ad M.length cap)
    (hM : ES enc n w ad M) (hnil : ad = none → cap = 0) (hMn : ∀ y ∈ M, (enc y).length = n ∧ ∀ u ∈ enc y, u.oneCell' = true) (hlen : L.length + M.length ≤ 100000000) (hbase : base ≤ w.heap.size)
    (h : ∀ v' w', OwE enc e n w' base v' (L ++ M) → w.grownBy w' v.ownBlock → wpList Tryd.prog ops Q rest (a.put o.dst v') w') : wpList Tryd.prog ops Q (o :: rest) a w :=
  wpList_plain hgd fun _ hK => app_wp s x t e ho ht z bytes hi hz hn hb base v L M hs hown ad cap hx hM hnil hMn hlen hbase fun v' w' h1 h2 => hK _ _ (h v' w' h1 h2)
end
theorem iV : (Tryd.prog.info? 54).map (fun i => (i.zero, i.size, i.bytes)) = some (some (.agg [Value.int .i64 0, .int .i64 0].toArray), 2, 16) := by kernel_rfl
theorem encV_one (x : Nat × Nat) : (encV x).length = 2 ∧ ∀ u ∈ encV x, u.oneCell' = true := ⟨rfl, by simp [encV, Value.oneCell']⟩
theorem bes_len (lev p n : Nat) : ∀ j, (Mk.bes lev p n j).length ≤ j
  | 0 => by simp [Mk.bes]
  | j + 1 => by
    have := bes_len lev p n j
    rw [Mk.bes, List.length_append]
    split <;> simp <;> omega
set_option maxHeartbeats 1000000 in
set_option maxRecDepth 8000 in
theorem others_any (lev p n : Nat) (hn : n ≤ 1099511627776) (hp : p * 2 ^ lev < n) (hl : lev ≤ 50) (w : World) :
    Calls Tryd.prog 20 #[.agg #[.int .i64 (lev : Int), .int .i64 (p : Int)], .int .i64 (n : Int)] w fun e w' => ∃ v, e = .returned v ∧ OwE encV 54 2 w' w.heap.size v (Mk.wy lev p n) ∧ Below w.heap.size w w' := by
  obtain ⟨b, hb, hb1, hb2⟩ : ∃ b : Nat, Hid (Lib.bitLen (n - 1) = b) ∧ b ≤ 41 ∧ Hid (n ≤ 2 ^ b ∧ ∀ k, k < b → 2 ^ k < n) := by
    by_cases h0 : n - 1 = 0
    · refine ⟨0, by show Lib.bitLen _ = 0; rw [h0]; rfl, by omega, ?_⟩
      show _ ∧ _
      exact ⟨by simp; omega, fun k hk => by omega⟩
    · obtain ⟨k, e, h1, h2⟩ := bitLen_pow (x := n - 1) (by omega) (by omega)
      refine ⟨k + 1, e, ?_, ?_⟩
      · refine Nat.le_of_not_lt fun h => ?_
        have h3 := Nat.pow_le_pow_right (n := 2) (by decide) (show 41 ≤ k by omega)
        omega
      · show _ ∧ _
        refine ⟨by omega, fun j hj => ?_⟩
        have h3 := Nat.pow_le_pow_right (n := 2) (by decide) (show j ≤ k by omega)
        omega
  have hw : IntKind.u64.wrap ((n : Int) - 1) = ((n - 1 : Nat) : Int) := by rw [IntKind.wrap_u64]; omega
  have hp1 : p < 1099511627776 := by have := Nat.le_mul_of_pos_right p (Mk.pow_pos2 lev); omega
  have HP : Hid (p * 2 ^ lev < n) := hp
  clear hp
  have O0 := owe_nil encV 54 2 (w.alloc (.cells #[.int .i64 (lev : Int), .int .i64 (p : Int)] 54)) w.heap.size
  go_enter Tryd.func20, Tryd.ntmps20
  go_wp2
  go_quiet (fail)
  obtain ⟨w1, HW, Z1⟩ : ∃ w1, (w.alloc (Obj.cells #[.int .i64 (lev : Int), .int .i64 (p : Int)] 54)).drewN nq = w1 ∧ Below w.heap.size w w1 := ⟨_, rfl, below_drewN ((Below.refl _ _).alloc (Nat.le_refl _) _) nq⟩
  have O1 := owe_nil encV 54 2 w1 w.heap.size
  rw [HW]
  clear HW O0
  go_wp2
  go_loopw [5, 6, 7] (fun o lv pl wr => ∃ j q : Nat, lv = .int .i64 ((lev + j : Nat) : Int) ∧ pl = .int .i64 (q : Int) ∧ Hid (q = p / 2 ^ j) ∧ Hid (lev + j ≤ b ∨ j = 0) ∧ OwE encV 54 2 wr w.heap.size o (Mk.bes lev p n j) ∧ Below w.heap.size w wr) (fun _ lv _ _ => 100 - (intOf lv).toNat)
  case atStart => exact ⟨0, p, rfl, rfl, by show p = _; simp, Or.inr rfl, O1, Z1⟩
  case round =>
    clear O1 Z1
    obtain ⟨j, q, rfl, rfl, hq, hj, hown, hbel⟩ := hrel
    have hs := hbel.size
    have hq1 : q < 1099511627776 := by rw [hq.out]; exact Nat.lt_of_le_of_lt (Nat.div_le_self _ _) hp1
    have hj1 : lev + j ≤ 60 := by rcases hj.out with h | h <;> omega
    go_wp2_with fail
    refine (len_any (n - 1) (by omega) wr).mono ?_
    rintro e w2 ⟨rfl, rfl⟩
    rw [hb.out]
    by_cases hlt : lev + j < b
    · have hx := xor_one' q (by omega)
      obtain ⟨y, hy⟩ : ∃ y : Nat, Hid (y = Mk.xr q) := ⟨_, rfl⟩
      rw [← hy.out] at hx
      have hy1 : y ≤ q + 1 := by rw [hy.out]; unfold Mk.xr; split <;> omega
      have hyb : y * 2 ^ (lev + j) ≤ 1000000000000000 := by
        have h1 : q * 2 ^ (lev + j) ≤ p * 2 ^ lev := by
          rw [hq.out, Nat.add_comm, Nat.pow_add, ← Nat.mul_assoc]
          exact Nat.mul_le_mul_right _ (Nat.div_mul_le_self _ _)
        have h2 := hb2.out.2 _ hlt
        have h3 := Nat.mul_le_mul_right (2 ^ (lev + j)) hy1
        rw [Nat.add_mul, Nat.one_mul] at h3
        have := HP.out
        omega
      obtain ⟨k, hk⟩ : ∃ k : Nat, lev + j = k := ⟨_, rfl⟩
      rw [hk] at hlt hyb hj1 ⊢
      have HY : Hid (y * 2 ^ k ≤ 1000000000000000) := hyb
      have HO : Hid (OwE encV 54 2 w2 w.heap.size u5 (Mk.bes lev p n j)) := hown
      clear hyb hown
      go_wp2_with fail
      refine (begin_any k y hj1 HY.out (w2.alloc (Obj.cells #[.int .i64 (k : Int), .int .i64 (y : Int)] 54))).mono ?_
      rintro e w3 ⟨rfl, Z3⟩
      have B3 : Hid (Blk w3 w2.heap.size 54 (encV (k, y))) := (blk_new w2 54 (encV (k, y))).below Z3 (by simp)
      have O3 : Hid (OwE encV 54 2 w3 w.heap.size u5 (Mk.bes lev p n j)) := (HO.out.alloc _).grow Z3
      have Z := (hbel.alloc hs (Obj.cells #[.int .i64 (k : Int), .int .i64 (y : Int)] 54)).trans (Z3.mono (by simp; omega))
      have hs3 := Z.size
      obtain ⟨q2, e2, hq2⟩ : ∃ q2 : Nat, (q : Int) / 2 = (q2 : Int) ∧ Hid (q2 = p / 2 ^ (j + 1)) := ⟨q / 2, by omega, by show _ = _; rw [hq.out, Nat.pow_succ, Nat.div_div_eq_div_mul]⟩
      have hsame : Hid (Mk.xr (p / 2 ^ j) = y) := by show _ = _; rw [hy.out, hq.out]
      obtain ⟨s1, hs1⟩ : ∃ s1 : Nat, Hid (s1 = y * 2 ^ k) := ⟨_, rfl⟩
      have hsb : s1 ≤ 1000000000000000 := by rw [hs1.out]; exact HY.out
      rw [← hs1.out]
      clear Z3 HO hbel hs HY
      by_cases hin : s1 < n
      · have hin' : (s1 : Int) < (n : Int) := by omega
        go_wp2_with (first | (refine ld_mid rfl 54 (.tmp 8) rfl w2.heap.size 0 rfl [.int .i64 (k : Int), .int .i64 (y : Int)] _ B3.out.all Tryd.underlying54 rfl (by kernel_rfl) ?_) | (at_builtin; go_must (refine app_wl rfl (.tmp 31) (.tmp 33) 52 54 rfl Tryd.underlying52 _ 16 iV rfl (by decide) (by decide) w.heap.size u5 (Mk.bes lev p n j) [(k, y)] rfl (O3.out.alloc _) _ 1 rfl (es_lit w3 _ (k, y)) (fun e => by cases e) (fun z _ => encV_one z) (by have := bes_len lev p n j; simp; omega) (by simp; omega) ?_)))
        intro v4 w4 o4 g4
        have Z4 := below_own (Z.alloc hs3 _) (by simp; omega) (O3.out.alloc _) g4
        have O4 : Hid (OwE encV 54 2 w4 w.heap.size v4 (Mk.bes lev p n (j + 1))) := by
          show OwE _ _ _ _ _ _ _
          rw [Mk.bes, hsame.out, hk, if_pos (by rw [← hs1.out]; exact hin)]
          exact o4
        clear g4 o4 B3 O3 Z hs3
        go_wp2
        go_roundw
        case rel => exact ⟨j + 1, q2, by rw [← Nat.add_assoc, hk]; rfl, rfl, hq2, .inl (by omega), O4.out, Z4⟩
        case measure => simp [intOf]; omega
      · have hin' : ¬ (s1 : Int) < (n : Int) := by omega
        have O4 : Hid (OwE encV 54 2 w3 w.heap.size u5 (Mk.bes lev p n (j + 1))) := by
          show OwE _ _ _ _ _ _ _
          rw [Mk.bes, hsame.out, hk, if_neg (by rw [← hs1.out]; exact hin), List.append_nil]
          exact O3.out
        clear B3 O3 hs3
        go_wp2
        go_roundw
        case rel => exact ⟨j + 1, q2, by rw [← Nat.add_assoc, hk]; rfl, rfl, hq2, .inl (by omega), O4.out, Z⟩
        case measure => simp [intOf]; omega
    · have hlt' : ¬ ((lev : Int) + (j : Int) < (b : Int)) := by omega
      have O4 : Hid (OwE encV 54 2 w2 w.heap.size u5 (Mk.wy lev p n)) := by
        show OwE _ _ _ _ _ _ _
        rw [Mk.wy_eq (j := j) (Nat.le_trans hb2.out.1 (Nat.pow_le_pow_right (by decide) (by omega))) HP.out]
        exact hown
      clear hown
      go_wp2
      go_ret
      exact ⟨_, rfl, O4.out, hbel⟩
#print axioms others_any
end Go.Proofs.YtfkiciejipcgkaaDoor
