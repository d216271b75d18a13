/-
  scrivenerlaw10.made: a tree of leaves; (*merkle.Tree).Root.
-/
import Derived.Test.YtfkiciejipcgkaaDoorEw
import Derived.Test.YtfkiciejipcgkaaDoorSSum
import Derived.Test.YtfkiciejipcgkaaDoorEn
namespace Go.Proofs.YtfkiciejipcgkaaDoor
open Go Go.RowKit Go.Maps Sh
set_option maxHeartbeats 2000000 in
set_option maxRecDepth 8000 in
theorem made_any (a : Option Addr) (cap : Nat) (L : List (List Nat)) (hL : Hl L) (hlen : L.length ≤ 1000000) (w : World) (hT : Tb w) (hS : ES (nums .u8) 32 w a L) :
    Calls Tryd.prog 4 #[.slice a L.length cap] w fun e w' => ∃ bt, e = .returned (.tuple #[.pointer (some ⟨bt, 0, none⟩), .bool true]) ∧ Tr w' bt w.heap.size L ∧ Below w.heap.size w w' := by
  have HS : Hid (ES (nums .u8) 32 w a L) := hS
  have HL : Hid (Hl L) := hL
  have HTb : Hid (Tb w) := hT
  have h1b := tb_lt hT
  clear hS hL hT
  go_enter Tryd.func4, Tryd.ntmps4
  go_wp2_with fail
  refine (new_any w).mono ?_
  rintro e w1 ⟨bt, rfl, hTr, Z1⟩
  have HI : Hid (Tr w1 bt w.heap.size (L.take 0) ∧ Below w.heap.size w w1) := ⟨hTr, Z1⟩
  clear hTr Z1
  go_wp2
  go_loopw [5] (fun iv wr => ∃ k : Nat, k ≤ L.length ∧ iv = .int .i64 (k : Int) ∧ Hid (Tr wr bt w.heap.size (L.take k) ∧ Below w.heap.size w wr)) (fun iv _ => L.length - (intOf iv).toNat)
  case atStart => exact ⟨0, Nat.zero_le _, rfl, HI⟩
  case round =>
    clear HI
    obtain ⟨k, hk, rfl, HI⟩ := hrel
    have Zr := HI.out.2
    by_cases hlt : k < L.length
    · obtain ⟨x, hx⟩ : ∃ x, L[k]? = some x := ⟨_, List.getElem?_eq_getElem hlt⟩
      obtain ⟨b, off, rfl, r⟩ := HS.out.at hx
      have r := range_below r Zr
      have HX : Hid (Hh x) := HL.out.at hx
      have hkl : (L.take k).length = k := by rw [List.length_take]; omega
      have KA := add_tree bt w.heap.size (L.take k) (HL.out.take k) x HX.out (by rw [hkl]; omega) wr (HTb.out.grow Zr) Zr.size h1b HI.out.1
      rw [hkl] at KA
      have et : L.take k ++ [x] = L.take (k + 1) := by rw [List.take_succ_eq_append_getElem hlt]; congr 2; obtain ⟨h1, h2⟩ := List.getElem?_eq_some_iff.1 hx; exact h2.symm
      rw [et] at KA
      clear hx hkl et
      go_wp2_with (refine ld_mid rfl 30 (.tmp 18) rfl b (off + k * 32) rfl (nums .u8 x) _ r Tryd.underlying30 rfl (sH HX.out) ?_)
      refine KA.mono ?_
      rintro e w2 ⟨rfl, hTr, Z2⟩
      have HI : Hid (Tr w2 bt w.heap.size (L.take (k + 1)) ∧ Below w.heap.size w w2) := ⟨hTr, Zr.trans Z2⟩
      clear hTr Z2
      go_wp2
      go_roundw
      case rel => exact ⟨k + 1, hlt, by simp, HI⟩
      case measure => simp [intOf]; omega
    · obtain rfl : k = L.length := by omega
      have HT : Hid (Tr wr bt w.heap.size L) := by have := HI.out.1; rw [List.take_of_length_le (Nat.le_refl _)] at this; exact this
      have KS := size_any bt w.heap.size L wr HT.out
      clear HI
      go_wp2_with fail
      refine KS.mono ?_
      rintro e w2 ⟨rfl, hw2⟩
      rw [hw2]
      clear hw2 w2 KS
      go_wp2
      (try simp only [Exit.inBlock, Exit.then])
      exact bodyPost_ret (results_tmp2 rfl _ _ _) rfl ⟨bt, rfl, HT.out, Zr⟩
#print axioms made_any
def zH : List Nat := List.replicate 32 0
theorem sgd_zero (L : List (List Nat)) (n : Nat) : sgd L 0 n = L.take n := by unfold sgd; rw [List.drop_zero]
/-- what Root answers. -/
def rtA (L : List (List Nat)) (n : Int) : Value := if 0 ≤ n ∧ n ≤ (L.length : Int) then .tuple #[.agg (nums .u8 (Mk.R nd em (L.take n.toNat))).toArray, .int .i64 0] else .tuple #[.agg (nums .u8 zH).toArray, .int .i64 1]
set_option maxHeartbeats 2000000 in
set_option maxRecDepth 8000 in
theorem root_in (bt base : Nat) (L : List (List Nat)) (hL : Hl L) (hlen : L.length ≤ 2000000) (n : Nat) (hn : n ≤ L.length) (w : World) (hTr : Tr w bt base L) :
    Calls Tryd.prog 5 #[.pointer (some ⟨bt, 0, none⟩), .int .i64 (n : Int)] w fun e w' => e = .returned (.tuple #[.agg (nums .u8 (Mk.R nd em (L.take n))).toArray, .int .i64 0]) ∧ Below w.heap.size w w' := by
  have HT : Hid (Tr w bt base L) := hTr
  obtain ⟨x, hx⟩ : ∃ x, Hid (x = Mk.R nd em (L.take n)) := ⟨_, rfl⟩
  have HX : Hid (Hh x) := by show Hh x; rw [hx.out]; exact R_hh (hL.take n)
  have HL : Hid (Hl L) := hL
  have HNl : Hid ((nums .u8 x).length = (nums .u8 (List.replicate 32 0)).length) := by show _ = _; rw [nums_length, nums_length, HX.out.1, List.length_replicate]
  have HNs : Hid ((Tryd.prog.info? 30).map (·.size) = some (nums .u8 x).length) := sH HX.out
  rw [← hx.out]
  have h1 : ¬ ((L.length : Int) < (n : Int)) := by omega
  clear hTr hL
  go_enter Tryd.func5, Tryd.ntmps5
  go_wp2_with (refine al_zero rfl 30 rfl _ z25 ?_)
  intro g1 w1 l1 B1 G1
  have Z := (Below.refl w.heap.size w).grown G1 (Nat.le_refl _) (by simp)
  have HT1 : Hid (Tr w1 bt base L) := HT.out.grow Z
  clear G1
  go_wp2_with fail
  refine (size_any bt base L w1 HT1.out).mono ?_
  rintro e w2 ⟨rfl, hw2⟩
  rw [hw2]
  clear hw2 w2
  by_cases hn0 : n = 0
  · have e0 : ((n : Int) == 0) = true := by rw [hn0]; rfl
    have K := sum_any none 0 [] (by simp) w1 (.inl rfl) (Nat.le_refl _) (by intro x hx; cases hx)
    have ex : x = Mt.D [] := by rw [hx.out, hn0, List.take_zero]; rfl
    clear hn0
    go_wp2_with fail
    refine K.mono ?_
    rintro e w2 ⟨rfl, Z2⟩
    rw [← ex]
    have B1 := B1.below Z2 B1.lt
    have Z := Z.trans (Z2.mono Z.size)
    clear Z2 K ex
    go_wp2_with (refine st_all rfl 30 (.tmp 4) (.tmp 21) rfl g1 30 (nums .u8 (List.replicate 32 0)) (nums .u8 x) rfl rfl B1 HNl.out HNs.out (nums_one _ _) ?_)
    intro w5 B5 G5
    go_wp2
    refine bodyPost_ret (res_two rfl _ g1 30 _ _ rfl B5 Tryd.underlying30 rfl HNs.out) rfl ⟨rfl, grown_below Z G5 Z.size l1⟩
  · have e0 : ((n : Int) == 0) = false := by rw [beq_eq_false_iff_ne]; omega
    have K := root_all bt L HL.out hlen (n + 1) n 0 n w1 (by omega) HT1.out.all (by omega) (Nat.le_of_lt Nat.lt_two_pow_self) (by omega)
    rw [Nat.zero_mul, Nat.zero_add, sgd_zero, ← hx.out] at K
    clear hn0
    go_wp2_with fail
    refine K.mono ?_
    rintro e w2 ⟨rfl, Z2⟩
    have B1 := B1.below Z2 B1.lt
    have Z := Z.trans (Z2.mono Z.size)
    clear Z2 K
    go_wp2_with (refine st_all rfl 30 (.tmp 4) (.tmp 24) rfl g1 30 (nums .u8 (List.replicate 32 0)) (nums .u8 x) rfl rfl B1 HNl.out HNs.out (nums_one _ _) ?_)
    intro w5 B5 G5
    go_wp2
    refine bodyPost_ret (res_two rfl _ g1 30 _ _ rfl B5 Tryd.underlying30 rfl HNs.out) rfl ⟨rfl, grown_below Z G5 Z.size l1⟩
#print axioms root_in
end Go.Proofs.YtfkiciejipcgkaaDoor
