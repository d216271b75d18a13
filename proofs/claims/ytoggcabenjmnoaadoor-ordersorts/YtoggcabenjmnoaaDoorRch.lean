/-
  The contract of the document's own check, at values that have no kids.
-/
import Derived.Test.YtoggcabenjmnoaaDoorFrm
namespace Go.Proofs.YtoggcabenjmnoaaDoor
open Go.RowKit
set_option linter.unusedVariables false
theorem ret_int {k : IntKind} {a b : Int} (h : a = b) : Ending.returned (.int k a) = .returned (.int k b) := by rw [h]
theorem own_no {h : Hd} {kl : Nat} (hf : formed h kl = false) : 3 = own h kl := by simp [own, hf]
theorem em_dec (l : List UInt8) : l.isEmpty = decide (l = []) := by cases l <;> simp
theorem size_nil {t : ByteArray} (h : t.toList = []) : t.size = 0 := by
  rw [ByteArray.toList_eq] at h
  have : t.data.toList.length = 0 := by rw [h]; rfl
  rw [Array.length_toList] at this
  exact this
theorem own_leaf {h : Hd} {kl : Nat} (hf : formed h kl = true) (hk : h.k ≠ 9) (ht : h.t.size ≤ 16384) (hkl : kl = 0) : 0 = own h kl := by
  subst hkl
  simp only [own, hf, if_true]
  rw [if_neg (by omega), if_neg (by simp [hk])]
theorem own_long {h : Hd} {kl : Nat} (hf : formed h kl = true) (ht : 16384 < h.t.size) : 5 = own h kl := by
  simp only [own, hf, if_true]
  rw [if_pos (by omega)]
set_option maxRecDepth 8000 in
set_option maxHeartbeats 4000000 in
theorem rcheck_1 (h : Hd) (na : Option Addr) (nc : Nat) (ka : Option Addr) (kl kc : Nat) (hk : h.k = 1) (hl : h.t.size ≤ 140737488355328) (d : Int) (hd : d ≤ 16) (w : World) :
    Calls Tryd.prog 26 #[.agg #[.int .i64 h.k, .int .i64 h.n, .int .i64 h.s, .string h.t, .slice na h.ns.length nc, .slice ka kl kc], .int .i64 d] w fun e w' => e = .returned (.int .i64 (own h kl)) ∧ Below w.heap.size w w' := by
  have HK : Hid (h.k = 1) := hk
  have HNo : Hid (formed h kl = false → 3 = own h kl) := own_no
  have HYes : Hid (formed h kl = true → kl = 0 → h.t.toList = [] → 0 = own h kl) := fun hf hl ht => own_leaf hf (by omega) (by have := size_nil ht; omega) hl
  have HLong : Hid (formed h kl = true → 16384 < h.t.size → 5 = own h kl) := own_long
  generalize own h kl = R at *
  go_enter Tryd.func26, Tryd.ntmps26
  go_wp2
  all_goals first
    | (go_ret; refine ⟨ret_int (HNo.out ?_), (Below.refl _ _).alloc (Nat.le_refl _) _⟩; clear HNo HYes HLong; simp only [formed, HK.out, only, em_dec]; generalize h.ns.length = nl at *; by_cases htl : h.t.toList = [] <;> simp_all <;> omega)
    | skip
  all_goals
    go_loopw [8] (fun i wr => i = .int .i64 0 ∧ wr.cell? ⟨w.heap.size, 5, none⟩ = some (.slice ka 0 kc) ∧ Hid (Below w.heap.size w wr)) (fun _ _ => 0)
    case atStart =>
      refine ⟨rfl, ?_, (Below.refl _ _).alloc (Nat.le_refl _) _⟩
      simp [World.cell?_alloc_new]
    case round =>
      obtain ⟨rfl, hc, HB⟩ := hrel
      go_wp2
      go_ret
      refine ⟨ret_int (HYes.out ?_ ?_ ?_), HB.out⟩
      · clear HNo HYes HLong
        simp only [formed, HK.out, only, em_dec]
        generalize h.ns.length = nl at *
        by_cases htl : h.t.toList = [] <;> simp_all <;> omega
      · omega
      · assumption
set_option maxRecDepth 8000 in
set_option maxHeartbeats 4000000 in
theorem rcheck_2 (h : Hd) (na : Option Addr) (nc : Nat) (ka : Option Addr) (kl kc : Nat) (hk : h.k = 2) (hl : h.t.size ≤ 140737488355328) (d : Int) (hd : d ≤ 16) (w : World) :
    Calls Tryd.prog 26 #[.agg #[.int .i64 h.k, .int .i64 h.n, .int .i64 h.s, .string h.t, .slice na h.ns.length nc, .slice ka kl kc], .int .i64 d] w fun e w' => e = .returned (.int .i64 (own h kl)) ∧ Below w.heap.size w w' := by
  have HK : Hid (h.k = 2) := hk
  have HNo : Hid (formed h kl = false → 3 = own h kl) := own_no
  have HYes : Hid (formed h kl = true → kl = 0 → h.t.toList = [] → 0 = own h kl) := fun hf hl ht => own_leaf hf (by omega) (by have := size_nil ht; omega) hl
  have HLong : Hid (formed h kl = true → 16384 < h.t.size → 5 = own h kl) := own_long
  generalize own h kl = R at *
  go_enter Tryd.func26, Tryd.ntmps26
  go_wp2
  all_goals first
    | (go_ret; refine ⟨ret_int (HNo.out ?_), (Below.refl _ _).alloc (Nat.le_refl _) _⟩; clear HNo HYes HLong; simp only [formed, HK.out, only, em_dec]; generalize h.ns.length = nl at *; by_cases htl : h.t.toList = [] <;> simp_all <;> omega)
    | skip
  all_goals
    go_loopw [8] (fun i wr => i = .int .i64 0 ∧ wr.cell? ⟨w.heap.size, 5, none⟩ = some (.slice ka 0 kc) ∧ Hid (Below w.heap.size w wr)) (fun _ _ => 0)
    case atStart =>
      refine ⟨rfl, ?_, (Below.refl _ _).alloc (Nat.le_refl _) _⟩
      simp [World.cell?_alloc_new]
    case round =>
      obtain ⟨rfl, hc, HB⟩ := hrel
      go_wp2
      go_ret
      refine ⟨ret_int (HYes.out ?_ ?_ ?_), HB.out⟩
      · clear HNo HYes HLong
        simp only [formed, HK.out, only, em_dec]
        generalize h.ns.length = nl at *
        by_cases htl : h.t.toList = [] <;> simp_all <;> omega
      · omega
      · assumption
set_option maxRecDepth 8000 in
set_option maxHeartbeats 4000000 in
theorem rcheck_3 (h : Hd) (na : Option Addr) (nc : Nat) (ka : Option Addr) (kl kc : Nat) (hk : h.k = 3) (hl : h.t.size ≤ 140737488355328) (d : Int) (hd : d ≤ 16) (w : World) :
    Calls Tryd.prog 26 #[.agg #[.int .i64 h.k, .int .i64 h.n, .int .i64 h.s, .string h.t, .slice na h.ns.length nc, .slice ka kl kc], .int .i64 d] w fun e w' => e = .returned (.int .i64 (own h kl)) ∧ Below w.heap.size w w' := by
  have HK : Hid (h.k = 3) := hk
  have HNo : Hid (formed h kl = false → 3 = own h kl) := own_no
  have HYes : Hid (formed h kl = true → kl = 0 → h.t.toList = [] → 0 = own h kl) := fun hf hl ht => own_leaf hf (by omega) (by have := size_nil ht; omega) hl
  have HLong : Hid (formed h kl = true → 16384 < h.t.size → 5 = own h kl) := own_long
  generalize own h kl = R at *
  go_enter Tryd.func26, Tryd.ntmps26
  go_wp2
  all_goals first
    | (go_ret; refine ⟨ret_int (HNo.out ?_), (Below.refl _ _).alloc (Nat.le_refl _) _⟩; clear HNo HYes HLong; simp only [formed, HK.out, only, em_dec]; generalize h.ns.length = nl at *; by_cases htl : h.t.toList = [] <;> simp_all <;> omega)
    | skip
  all_goals
    go_loopw [8] (fun i wr => i = .int .i64 0 ∧ wr.cell? ⟨w.heap.size, 5, none⟩ = some (.slice ka 0 kc) ∧ Hid (Below w.heap.size w wr)) (fun _ _ => 0)
    case atStart =>
      refine ⟨rfl, ?_, (Below.refl _ _).alloc (Nat.le_refl _) _⟩
      simp [World.cell?_alloc_new]
    case round =>
      obtain ⟨rfl, hc, HB⟩ := hrel
      go_wp2
      go_ret
      refine ⟨ret_int (HYes.out ?_ ?_ ?_), HB.out⟩
      · clear HNo HYes HLong
        simp only [formed, HK.out, only, em_dec]
        generalize h.ns.length = nl at *
        by_cases htl : h.t.toList = [] <;> simp_all <;> omega
      · omega
      · assumption
set_option maxRecDepth 8000 in
set_option maxHeartbeats 4000000 in
theorem rcheck_4 (h : Hd) (na : Option Addr) (nc : Nat) (ka : Option Addr) (kl kc : Nat) (hk : h.k = 4) (hl : h.t.size ≤ 140737488355328) (d : Int) (hd : d ≤ 16) (w : World) :
    Calls Tryd.prog 26 #[.agg #[.int .i64 h.k, .int .i64 h.n, .int .i64 h.s, .string h.t, .slice na h.ns.length nc, .slice ka kl kc], .int .i64 d] w fun e w' => e = .returned (.int .i64 (own h kl)) ∧ Below w.heap.size w w' := by
  have HK : Hid (h.k = 4) := hk
  have HNo : Hid (formed h kl = false → 3 = own h kl) := own_no
  have HYes : Hid (formed h kl = true → kl = 0 → h.t.toList = [] → 0 = own h kl) := fun hf hl ht => own_leaf hf (by omega) (by have := size_nil ht; omega) hl
  have HLong : Hid (formed h kl = true → 16384 < h.t.size → 5 = own h kl) := own_long
  generalize own h kl = R at *
  go_enter Tryd.func26, Tryd.ntmps26
  go_wp2
  all_goals first
    | (go_ret; refine ⟨ret_int (HNo.out ?_), (Below.refl _ _).alloc (Nat.le_refl _) _⟩; clear HNo HYes HLong; simp only [formed, HK.out, only, em_dec]; generalize h.ns.length = nl at *; by_cases htl : h.t.toList = [] <;> simp_all <;> omega)
    | skip
  all_goals
    go_loopw [8] (fun i wr => i = .int .i64 0 ∧ wr.cell? ⟨w.heap.size, 5, none⟩ = some (.slice ka 0 kc) ∧ Hid (Below w.heap.size w wr)) (fun _ _ => 0)
    case atStart =>
      refine ⟨rfl, ?_, (Below.refl _ _).alloc (Nat.le_refl _) _⟩
      simp [World.cell?_alloc_new]
    case round =>
      obtain ⟨rfl, hc, HB⟩ := hrel
      go_wp2
      go_ret
      refine ⟨ret_int (HYes.out ?_ ?_ ?_), HB.out⟩
      · clear HNo HYes HLong
        simp only [formed, HK.out, only, em_dec]
        generalize h.ns.length = nl at *
        by_cases htl : h.t.toList = [] <;> simp_all <;> omega
      · omega
      · assumption
set_option maxRecDepth 8000 in
set_option maxHeartbeats 4000000 in
theorem rcheck_5 (h : Hd) (na : Option Addr) (nc : Nat) (ka : Option Addr) (kl kc : Nat) (hk : h.k = 5) (hl : h.t.size ≤ 140737488355328) (d : Int) (hd : d ≤ 16) (w : World) :
    Calls Tryd.prog 26 #[.agg #[.int .i64 h.k, .int .i64 h.n, .int .i64 h.s, .string h.t, .slice na h.ns.length nc, .slice ka kl kc], .int .i64 d] w fun e w' => e = .returned (.int .i64 (own h kl)) ∧ Below w.heap.size w w' := by
  have HK : Hid (h.k = 5) := hk
  have HNo : Hid (formed h kl = false → 3 = own h kl) := own_no
  have HYes : Hid (formed h kl = true → kl = 0 → h.t.toList = [] → 0 = own h kl) := fun hf hl ht => own_leaf hf (by omega) (by have := size_nil ht; omega) hl
  have HLong : Hid (formed h kl = true → 16384 < h.t.size → 5 = own h kl) := own_long
  generalize own h kl = R at *
  go_enter Tryd.func26, Tryd.ntmps26
  go_wp2
  all_goals first
    | (go_ret; refine ⟨ret_int (HNo.out ?_), (Below.refl _ _).alloc (Nat.le_refl _) _⟩; clear HNo HYes HLong; simp only [formed, HK.out, only, em_dec]; generalize h.ns.length = nl at *; by_cases htl : h.t.toList = [] <;> simp_all <;> omega)
    | skip
  all_goals
    go_loopw [8] (fun i wr => i = .int .i64 0 ∧ wr.cell? ⟨w.heap.size, 5, none⟩ = some (.slice ka 0 kc) ∧ Hid (Below w.heap.size w wr)) (fun _ _ => 0)
    case atStart =>
      refine ⟨rfl, ?_, (Below.refl _ _).alloc (Nat.le_refl _) _⟩
      simp [World.cell?_alloc_new]
    case round =>
      obtain ⟨rfl, hc, HB⟩ := hrel
      go_wp2
      go_ret
      refine ⟨ret_int (HYes.out ?_ ?_ ?_), HB.out⟩
      · clear HNo HYes HLong
        simp only [formed, HK.out, only, em_dec]
        generalize h.ns.length = nl at *
        by_cases htl : h.t.toList = [] <;> simp_all <;> omega
      · omega
      · assumption
set_option maxRecDepth 8000 in
set_option maxHeartbeats 4000000 in
theorem rcheck_6 (h : Hd) (na : Option Addr) (nc : Nat) (ka : Option Addr) (kl kc : Nat) (hk : h.k = 6) (hl : h.t.size ≤ 140737488355328) (d : Int) (hd : d ≤ 16) (w : World) :
    Calls Tryd.prog 26 #[.agg #[.int .i64 h.k, .int .i64 h.n, .int .i64 h.s, .string h.t, .slice na h.ns.length nc, .slice ka kl kc], .int .i64 d] w fun e w' => e = .returned (.int .i64 (own h kl)) ∧ Below w.heap.size w w' := by
  have HK : Hid (h.k = 6) := hk
  have HNo : Hid (formed h kl = false → 3 = own h kl) := own_no
  have HYes : Hid (formed h kl = true → kl = 0 → h.t.size ≤ 16384 → 0 = own h kl) := fun hf hl ht => own_leaf hf (by omega) ht hl
  have HLong : Hid (formed h kl = true → 16384 < h.t.size → 5 = own h kl) := own_long
  generalize own h kl = R at *
  go_enter Tryd.func26, Tryd.ntmps26
  go_wp2
  all_goals first
    | (go_ret; refine ⟨ret_int (HNo.out ?_), (Below.refl _ _).alloc (Nat.le_refl _) _⟩; clear HNo HYes HLong; simp only [formed, HK.out, only, em_dec]; generalize h.ns.length = nl at *; by_cases htl : h.t.toList = [] <;> simp_all <;> omega)
    | (go_ret; refine ⟨ret_int (HLong.out ?_ (by omega)), (Below.refl _ _).alloc (Nat.le_refl _) _⟩; clear HNo HYes HLong; simp only [formed, HK.out, only, em_dec]; generalize h.ns.length = nl at *; by_cases htl : h.t.toList = [] <;> simp_all <;> omega)
    | skip
  all_goals
    go_loopw [8] (fun i wr => i = .int .i64 0 ∧ wr.cell? ⟨w.heap.size, 5, none⟩ = some (.slice ka 0 kc) ∧ Hid (Below w.heap.size w wr)) (fun _ _ => 0)
    case atStart =>
      refine ⟨rfl, ?_, (Below.refl _ _).alloc (Nat.le_refl _) _⟩
      simp [World.cell?_alloc_new]
    case round =>
      obtain ⟨rfl, hc, HB⟩ := hrel
      go_wp2
      go_ret
      refine ⟨ret_int (HYes.out ?_ ?_ ?_), HB.out⟩
      · clear HNo HYes HLong
        simp only [formed, HK.out, only, em_dec]
        generalize h.ns.length = nl at *
        by_cases htl : h.t.toList = [] <;> simp_all <;> omega
      · omega
      · omega
set_option maxRecDepth 8000 in
set_option maxHeartbeats 4000000 in
theorem rcheck_7 (h : Hd) (na : Option Addr) (nc : Nat) (ka : Option Addr) (kl kc : Nat) (hk : h.k = 7) (hl : h.t.size ≤ 140737488355328) (d : Int) (hd : d ≤ 16) (w : World) :
    Calls Tryd.prog 26 #[.agg #[.int .i64 h.k, .int .i64 h.n, .int .i64 h.s, .string h.t, .slice na h.ns.length nc, .slice ka kl kc], .int .i64 d] w fun e w' => e = .returned (.int .i64 (own h kl)) ∧ Below w.heap.size w w' := by
  have HK : Hid (h.k = 7) := hk
  have HNo : Hid (formed h kl = false → 3 = own h kl) := own_no
  have HYes : Hid (formed h kl = true → kl = 0 → h.t.size ≤ 16384 → 0 = own h kl) := fun hf hl ht => own_leaf hf (by omega) ht hl
  have HLong : Hid (formed h kl = true → 16384 < h.t.size → 5 = own h kl) := own_long
  generalize own h kl = R at *
  go_enter Tryd.func26, Tryd.ntmps26
  go_wp2
  all_goals first
    | (go_ret; refine ⟨ret_int (HNo.out ?_), (Below.refl _ _).alloc (Nat.le_refl _) _⟩; clear HNo HYes HLong; simp only [formed, HK.out, only, em_dec]; generalize h.ns.length = nl at *; by_cases htl : h.t.toList = [] <;> simp_all <;> omega)
    | (go_ret; refine ⟨ret_int (HLong.out ?_ (by omega)), (Below.refl _ _).alloc (Nat.le_refl _) _⟩; clear HNo HYes HLong; simp only [formed, HK.out, only, em_dec]; generalize h.ns.length = nl at *; by_cases htl : h.t.toList = [] <;> simp_all <;> omega)
    | skip
  all_goals
    go_loopw [8] (fun i wr => i = .int .i64 0 ∧ wr.cell? ⟨w.heap.size, 5, none⟩ = some (.slice ka 0 kc) ∧ Hid (Below w.heap.size w wr)) (fun _ _ => 0)
    case atStart =>
      refine ⟨rfl, ?_, (Below.refl _ _).alloc (Nat.le_refl _) _⟩
      simp [World.cell?_alloc_new]
    case round =>
      obtain ⟨rfl, hc, HB⟩ := hrel
      go_wp2
      go_ret
      refine ⟨ret_int (HYes.out ?_ ?_ ?_), HB.out⟩
      · clear HNo HYes HLong
        simp only [formed, HK.out, only, em_dec]
        generalize h.ns.length = nl at *
        by_cases htl : h.t.toList = [] <;> simp_all <;> omega
      · omega
      · omega
end Go.Proofs.YtoggcabenjmnoaaDoor
