/-
  Root, Prove and Consist of a tree, out of range.
-/
import Derived.Test.YtfkiciejipcgkaaDoorEx
namespace Go.Proofs.YtfkiciejipcgkaaDoor
open Go Go.RowKit Go.Maps Sh
theorem zS' : (Tryd.prog.info? 30).map (·.size) = some (nums .u8 (List.replicate 32 0)).length := by rw [nums_length, List.length_replicate]; exact s25
theorem bd_z' (a : Act) : Tryd.prog.built 30 ((#[] : Array (Nat × Operand)).map fun p => (p.1, a.eval p.2)).toList = some (nums .u8 (List.replicate 32 0)).toArray := by kernel_rfl
set_option maxHeartbeats 1000000 in
set_option maxRecDepth 8000 in
theorem root_out (bt base : Nat) (L : List (List Nat)) (n : Int) (hn : ¬ (0 ≤ n ∧ n ≤ (L.length : Int))) (w : World) (hTr : Tr w bt base L) :
    Calls Tryd.prog 5 #[.pointer (some ⟨bt, 0, none⟩), .int .i64 n] w fun e w' => e = .returned (.tuple #[.agg (nums .u8 (List.replicate 32 0)).toArray, .int .i64 1]) ∧ Below w.heap.size w w' := by
  have HT : Hid (Tr w bt base L) := hTr
  have hz : Hid ((Tryd.prog.info? 30).map (·.size) = some (nums .u8 (List.replicate 32 0)).length) := zS'
  clear hTr
  go_enter Tryd.func5, Tryd.ntmps5
  go_wp2_with (refine al_zero rfl 30 rfl _ z25 ?_)
  intro g1 w1 l1 B1 G1
  have Z := (Below.refl w.heap.size w).grown G1 (Nat.le_refl _) (by simp)
  have HT1 : Hid (Tr w1 bt base L) := HT.out.grow Z
  clear G1
  by_cases c1 : n < 0
  · go_wp2_with (first | (refine bd_row rfl 30 #[] rfl (nums .u8 (List.replicate 32 0)) (bd_z' _) ?_) | (refine st_all rfl 30 (.tmp 4) (.tmp 18) rfl g1 30 (nums .u8 (List.replicate 32 0)) (nums .u8 (List.replicate 32 0)) rfl rfl B1 rfl hz.out (nums_one _ _) ?_))
    intro w2 B2 G2
    go_wp2
    refine bodyPost_ret (res_two rfl _ g1 30 _ _ rfl B2 Tryd.underlying30 rfl hz.out) rfl ⟨rfl, grown_below Z G2 Z.size l1⟩
  · have c2 : (L.length : Int) < n := by omega
    go_wp2_with fail
    refine (size_any bt base L w1 HT1.out).mono ?_
    rintro e w2 ⟨rfl, hw2⟩
    rw [hw2]
    clear hw2 w2
    go_wp2_with (first | (refine bd_row rfl 30 #[] rfl (nums .u8 (List.replicate 32 0)) (bd_z' _) ?_) | (refine st_all rfl 30 (.tmp 4) (.tmp 18) rfl g1 30 (nums .u8 (List.replicate 32 0)) (nums .u8 (List.replicate 32 0)) rfl rfl B1 rfl hz.out (nums_one _ _) ?_))
    intro w2 B2 G2
    go_wp2
    refine bodyPost_ret (res_two rfl _ g1 30 _ _ rfl B2 Tryd.underlying30 rfl hz.out) rfl ⟨rfl, grown_below Z G2 Z.size l1⟩
#print axioms root_out
set_option maxHeartbeats 1000000 in
set_option maxRecDepth 8000 in
theorem prove_out (bt base : Nat) (L : List (List Nat)) (i n : Int) (hn : ¬ (0 ≤ i ∧ i < n ∧ n ≤ (L.length : Int))) (w : World) (hTr : Tr w bt base L) :
    Calls Tryd.prog 7 #[.pointer (some ⟨bt, 0, none⟩), .int .i64 i, .int .i64 n] w fun e w' => e = .returned (.tuple #[.agg #[.slice none 0 0], .int .i64 1]) ∧ Below w.heap.size w w' := by
  have HT : Hid (Tr w bt base L) := hTr
  clear hTr
  go_enter Tryd.func7, Tryd.ntmps7
  go_wp2_with (refine al_zero rfl 37 rfl [.slice none 0 0] (by kernel_rfl) ?_)
  intro g1 w1 l1 B1 G1
  have Z := (Below.refl w.heap.size w).grown G1 (Nat.le_refl _) (by simp)
  have HT1 : Hid (Tr w1 bt base L) := HT.out.grow Z
  clear G1
  by_cases c1 : i < 0
  · go_wp2_with (refine st_all rfl 37 (.tmp 6) (.tmp 21) rfl g1 37 [.slice none 0 0] [.slice none 0 0] rfl rfl B1 rfl (by kernel_rfl) (by simp [Value.oneCell']) ?_)
    intro w2 B2 G2
    go_wp2
    refine bodyPost_ret (res_two rfl _ g1 37 _ _ rfl B2 Tryd.underlying37 rfl (by kernel_rfl)) rfl ⟨rfl, grown_below Z G2 Z.size l1⟩
  by_cases c2 : n ≤ i
  · go_wp2_with (refine st_all rfl 37 (.tmp 6) (.tmp 21) rfl g1 37 [.slice none 0 0] [.slice none 0 0] rfl rfl B1 rfl (by kernel_rfl) (by simp [Value.oneCell']) ?_)
    intro w2 B2 G2
    go_wp2
    refine bodyPost_ret (res_two rfl _ g1 37 _ _ rfl B2 Tryd.underlying37 rfl (by kernel_rfl)) rfl ⟨rfl, grown_below Z G2 Z.size l1⟩
  have c3 : (L.length : Int) < n := by omega
  go_wp2_with fail
  refine (size_any bt base L w1 HT1.out).mono ?_
  rintro e w2 ⟨rfl, hw2⟩
  rw [hw2]
  clear hw2 w2
  go_wp2_with (refine st_all rfl 37 (.tmp 6) (.tmp 21) rfl g1 37 [.slice none 0 0] [.slice none 0 0] rfl rfl B1 rfl (by kernel_rfl) (by simp [Value.oneCell']) ?_)
  intro w2 B2 G2
  go_wp2
  refine bodyPost_ret (res_two rfl _ g1 37 _ _ rfl B2 Tryd.underlying37 rfl (by kernel_rfl)) rfl ⟨rfl, grown_below Z G2 Z.size l1⟩
#print axioms prove_out
set_option maxHeartbeats 1000000 in
set_option maxRecDepth 8000 in
theorem consist_out (bt base : Nat) (L : List (List Nat)) (m n : Int) (hn : ¬ (1 ≤ m ∧ m ≤ n ∧ n ≤ (L.length : Int))) (w : World) (hTr : Tr w bt base L) :
    Calls Tryd.prog 9 #[.pointer (some ⟨bt, 0, none⟩), .int .i64 m, .int .i64 n] w fun e w' => e = .returned (.tuple #[.agg #[.slice none 0 0], .int .i64 1]) ∧ Below w.heap.size w w' := by
  have HT : Hid (Tr w bt base L) := hTr
  clear hTr
  go_enter Tryd.func9, Tryd.ntmps9
  go_wp2_with (refine al_zero rfl 37 rfl [.slice none 0 0] (by kernel_rfl) ?_)
  intro g1 w1 l1 B1 G1
  have Z := (Below.refl w.heap.size w).grown G1 (Nat.le_refl _) (by simp)
  have HT1 : Hid (Tr w1 bt base L) := HT.out.grow Z
  clear G1
  by_cases c1 : m < 1
  · go_wp2_with (refine st_all rfl 37 (.tmp 6) (.tmp 23) rfl g1 37 [.slice none 0 0] [.slice none 0 0] rfl rfl B1 rfl (by kernel_rfl) (by simp [Value.oneCell']) ?_)
    intro w2 B2 G2
    go_wp2
    refine bodyPost_ret (res_two rfl _ g1 37 _ _ rfl B2 Tryd.underlying37 rfl (by kernel_rfl)) rfl ⟨rfl, grown_below Z G2 Z.size l1⟩
  by_cases c2 : n < m
  · go_wp2_with (refine st_all rfl 37 (.tmp 6) (.tmp 23) rfl g1 37 [.slice none 0 0] [.slice none 0 0] rfl rfl B1 rfl (by kernel_rfl) (by simp [Value.oneCell']) ?_)
    intro w2 B2 G2
    go_wp2
    refine bodyPost_ret (res_two rfl _ g1 37 _ _ rfl B2 Tryd.underlying37 rfl (by kernel_rfl)) rfl ⟨rfl, grown_below Z G2 Z.size l1⟩
  have c3 : (L.length : Int) < n := by omega
  go_wp2_with fail
  refine (size_any bt base L w1 HT1.out).mono ?_
  rintro e w2 ⟨rfl, hw2⟩
  rw [hw2]
  clear hw2 w2
  go_wp2_with (refine st_all rfl 37 (.tmp 6) (.tmp 23) rfl g1 37 [.slice none 0 0] [.slice none 0 0] rfl rfl B1 rfl (by kernel_rfl) (by simp [Value.oneCell']) ?_)
  intro w2 B2 G2
  go_wp2
  refine bodyPost_ret (res_two rfl _ g1 37 _ _ rfl B2 Tryd.underlying37 rfl (by kernel_rfl)) rfl ⟨rfl, grown_below Z G2 Z.size l1⟩
#print axioms consist_out
end Go.Proofs.YtfkiciejipcgkaaDoor
