/-
   ·  · 
-/
import Derived.Test.YtpfiejmhnkcjbaaGreatDoorHG1x
namespace Go.Proofs.YtpfiejmhnkcjbaaGreatDoor
set_option maxHeartbeats 4000000
set_option maxRecDepth 8000
open Go.RowKit
set_option linter.unusedVariables false
theorem ret_int {k : IntKind} {a b : Int} (h : a = b) : Ending.returned (.int k a) = .returned (.int k b) := by rw [h]
theorem own_no {h : Hd} {kl : Nat} (hf : formed h kl = false) : 3 = own h kl := by simp [own, hf]
theorem em_dec (l : List UInt8) : l.isEmpty = decide (l = []) := by cases l <;> simp
theorem size_nil {t : ByteArray} (h : t.toList = []) : t.size = 0 := by
 rw [ByteArray.toList_eq] at h
 have : t.data.toList.length = 0 := by rw [h]; rfl
 rw [Array.length_toList] at this
 exact this
theorem own_leaf {h : Hd} {kl : Nat} (hf : formed h kl = true) (hk : h.k ≠ 9) (ht : h.t.size <= 16384) (hkl : kl = 0) : 0 = own h kl := by
 subst hkl
 simp only [own, hf, if_true]
 rw [if_neg (by omega), if_neg (by simp [hk])]
theorem own_long {h : Hd} {kl : Nat} (hf : formed h kl = true) (ht : 16384 < h.t.size) : 5 = own h kl := by
 simp only [own, hf, if_true]
 rw [if_pos (by omega)]
theorem rcheck_1 (h : Hd) (na : Option Addr) (nc : Nat) (ka : Option Addr) (kl kc : Nat) (hk : h.k = 1) (hl : h.t.size <= 140737488355328) (d : Int) (hd : d <= 16) (w : World) :
 Calls Tryz.prog 44 #[.agg #[.int .i64 h.k, .int .i64 h.n, .int .i64 h.s, .string h.t, .slice na h.ns.length nc, .slice ka kl kc], .int .i64 d] w fun e w' => e = .returned (.int .i64 (own h kl)) /\ Below w.heap.size w w' := by
 have HK : Hid (h.k = 1) := hk
 have HNo : Hid (formed h kl = false -> 3 = own h kl) := own_no
 have HYes : Hid (formed h kl = true -> kl = 0 -> h.t.toList = [] -> 0 = own h kl) := fun hf hl ht => own_leaf hf (by omega) (by have := size_nil ht; omega) hl
 have HLong : Hid (formed h kl = true -> 16384 < h.t.size -> 5 = own h kl) := own_long
 generalize own h kl = R at *
 go_enter Tryz.func44, Tryz.ntmps44
 go_wp2
 all_goals first
  | (go_ret; refine ⟨ret_int (HNo.out ?_), (Below.refl _ _).alloc (Nat.le_refl _) _⟩; clear HNo HYes HLong; simp only [formed, HK.out, only, em_dec]; generalize h.ns.length = nl at *; by_cases htl : h.t.toList = [] <;> simp_all <;> omega)
  | skip
 all_goals
  go_loopw [8] (fun i wr => i = .int .i64 0 /\ wr.cell? ⟨w.heap.size, 5, none⟩ = some (.slice ka 0 kc) /\ Hid (Below w.heap.size w wr)) (fun _ _ => 0)
  case atStart =>
   refine ⟨rfl, ?_, (Below.refl _ _).alloc (Nat.le_refl _) _⟩
   simp [World.cell?_alloc_new]
  case round =>
   obtain ⟨rfl, hc, HB⟩ := hrel
   go_wp2
   go_ret
   refine ⟨ret_int (HYes.out ?_ ?_ ?_), HB.out⟩
   . clear HNo HYes HLong
     simp only [formed, HK.out, only, em_dec]
     generalize h.ns.length = nl at *
     by_cases htl : h.t.toList = [] <;> simp_all <;> omega
   . omega
   . assumption
theorem rcheck_2 (h : Hd) (na : Option Addr) (nc : Nat) (ka : Option Addr) (kl kc : Nat) (hk : h.k = 2) (hl : h.t.size <= 140737488355328) (d : Int) (hd : d <= 16) (w : World) :
 Calls Tryz.prog 44 #[.agg #[.int .i64 h.k, .int .i64 h.n, .int .i64 h.s, .string h.t, .slice na h.ns.length nc, .slice ka kl kc], .int .i64 d] w fun e w' => e = .returned (.int .i64 (own h kl)) /\ Below w.heap.size w w' := by
 have HK : Hid (h.k = 2) := hk
 have HNo : Hid (formed h kl = false -> 3 = own h kl) := own_no
 have HYes : Hid (formed h kl = true -> kl = 0 -> h.t.toList = [] -> 0 = own h kl) := fun hf hl ht => own_leaf hf (by omega) (by have := size_nil ht; omega) hl
 have HLong : Hid (formed h kl = true -> 16384 < h.t.size -> 5 = own h kl) := own_long
 generalize own h kl = R at *
 go_enter Tryz.func44, Tryz.ntmps44
 go_wp2
 all_goals first
  | (go_ret; refine ⟨ret_int (HNo.out ?_), (Below.refl _ _).alloc (Nat.le_refl _) _⟩; clear HNo HYes HLong; simp only [formed, HK.out, only, em_dec]; generalize h.ns.length = nl at *; by_cases htl : h.t.toList = [] <;> simp_all <;> omega)
  | skip
 all_goals
  go_loopw [8] (fun i wr => i = .int .i64 0 /\ wr.cell? ⟨w.heap.size, 5, none⟩ = some (.slice ka 0 kc) /\ Hid (Below w.heap.size w wr)) (fun _ _ => 0)
  case atStart =>
   refine ⟨rfl, ?_, (Below.refl _ _).alloc (Nat.le_refl _) _⟩
   simp [World.cell?_alloc_new]
  case round =>
   obtain ⟨rfl, hc, HB⟩ := hrel
   go_wp2
   go_ret
   refine ⟨ret_int (HYes.out ?_ ?_ ?_), HB.out⟩
   . clear HNo HYes HLong
     simp only [formed, HK.out, only, em_dec]
     generalize h.ns.length = nl at *
     by_cases htl : h.t.toList = [] <;> simp_all <;> omega
   . omega
   . assumption
theorem rcheck_3 (h : Hd) (na : Option Addr) (nc : Nat) (ka : Option Addr) (kl kc : Nat) (hk : h.k = 3) (hl : h.t.size <= 140737488355328) (d : Int) (hd : d <= 16) (w : World) :
 Calls Tryz.prog 44 #[.agg #[.int .i64 h.k, .int .i64 h.n, .int .i64 h.s, .string h.t, .slice na h.ns.length nc, .slice ka kl kc], .int .i64 d] w fun e w' => e = .returned (.int .i64 (own h kl)) /\ Below w.heap.size w w' := by
 have HK : Hid (h.k = 3) := hk
 have HNo : Hid (formed h kl = false -> 3 = own h kl) := own_no
 have HYes : Hid (formed h kl = true -> kl = 0 -> h.t.toList = [] -> 0 = own h kl) := fun hf hl ht => own_leaf hf (by omega) (by have := size_nil ht; omega) hl
 have HLong : Hid (formed h kl = true -> 16384 < h.t.size -> 5 = own h kl) := own_long
 generalize own h kl = R at *
 go_enter Tryz.func44, Tryz.ntmps44
 go_wp2
 all_goals first
  | (go_ret; refine ⟨ret_int (HNo.out ?_), (Below.refl _ _).alloc (Nat.le_refl _) _⟩; clear HNo HYes HLong; simp only [formed, HK.out, only, em_dec]; generalize h.ns.length = nl at *; by_cases htl : h.t.toList = [] <;> simp_all <;> omega)
  | skip
 all_goals
  go_loopw [8] (fun i wr => i = .int .i64 0 /\ wr.cell? ⟨w.heap.size, 5, none⟩ = some (.slice ka 0 kc) /\ Hid (Below w.heap.size w wr)) (fun _ _ => 0)
  case atStart =>
   refine ⟨rfl, ?_, (Below.refl _ _).alloc (Nat.le_refl _) _⟩
   simp [World.cell?_alloc_new]
  case round =>
   obtain ⟨rfl, hc, HB⟩ := hrel
   go_wp2
   go_ret
   refine ⟨ret_int (HYes.out ?_ ?_ ?_), HB.out⟩
   . clear HNo HYes HLong
     simp only [formed, HK.out, only, em_dec]
     generalize h.ns.length = nl at *
     by_cases htl : h.t.toList = [] <;> simp_all <;> omega
   . omega
   . assumption
theorem rcheck_4 (h : Hd) (na : Option Addr) (nc : Nat) (ka : Option Addr) (kl kc : Nat) (hk : h.k = 4) (hl : h.t.size <= 140737488355328) (d : Int) (hd : d <= 16) (w : World) :
 Calls Tryz.prog 44 #[.agg #[.int .i64 h.k, .int .i64 h.n, .int .i64 h.s, .string h.t, .slice na h.ns.length nc, .slice ka kl kc], .int .i64 d] w fun e w' => e = .returned (.int .i64 (own h kl)) /\ Below w.heap.size w w' := by
 have HK : Hid (h.k = 4) := hk
 have HNo : Hid (formed h kl = false -> 3 = own h kl) := own_no
 have HYes : Hid (formed h kl = true -> kl = 0 -> h.t.toList = [] -> 0 = own h kl) := fun hf hl ht => own_leaf hf (by omega) (by have := size_nil ht; omega) hl
 have HLong : Hid (formed h kl = true -> 16384 < h.t.size -> 5 = own h kl) := own_long
 generalize own h kl = R at *
 go_enter Tryz.func44, Tryz.ntmps44
 go_wp2
 all_goals first
  | (go_ret; refine ⟨ret_int (HNo.out ?_), (Below.refl _ _).alloc (Nat.le_refl _) _⟩; clear HNo HYes HLong; simp only [formed, HK.out, only, em_dec]; generalize h.ns.length = nl at *; by_cases htl : h.t.toList = [] <;> simp_all <;> omega)
  | skip
 all_goals
  go_loopw [8] (fun i wr => i = .int .i64 0 /\ wr.cell? ⟨w.heap.size, 5, none⟩ = some (.slice ka 0 kc) /\ Hid (Below w.heap.size w wr)) (fun _ _ => 0)
  case atStart =>
   refine ⟨rfl, ?_, (Below.refl _ _).alloc (Nat.le_refl _) _⟩
   simp [World.cell?_alloc_new]
  case round =>
   obtain ⟨rfl, hc, HB⟩ := hrel
   go_wp2
   go_ret
   refine ⟨ret_int (HYes.out ?_ ?_ ?_), HB.out⟩
   . clear HNo HYes HLong
     simp only [formed, HK.out, only, em_dec]
     generalize h.ns.length = nl at *
     by_cases htl : h.t.toList = [] <;> simp_all <;> omega
   . omega
   . assumption
theorem rcheck_5 (h : Hd) (na : Option Addr) (nc : Nat) (ka : Option Addr) (kl kc : Nat) (hk : h.k = 5) (hl : h.t.size <= 140737488355328) (d : Int) (hd : d <= 16) (w : World) :
 Calls Tryz.prog 44 #[.agg #[.int .i64 h.k, .int .i64 h.n, .int .i64 h.s, .string h.t, .slice na h.ns.length nc, .slice ka kl kc], .int .i64 d] w fun e w' => e = .returned (.int .i64 (own h kl)) /\ Below w.heap.size w w' := by
 have HK : Hid (h.k = 5) := hk
 have HNo : Hid (formed h kl = false -> 3 = own h kl) := own_no
 have HYes : Hid (formed h kl = true -> kl = 0 -> h.t.toList = [] -> 0 = own h kl) := fun hf hl ht => own_leaf hf (by omega) (by have := size_nil ht; omega) hl
 have HLong : Hid (formed h kl = true -> 16384 < h.t.size -> 5 = own h kl) := own_long
 generalize own h kl = R at *
 go_enter Tryz.func44, Tryz.ntmps44
 go_wp2
 all_goals first
  | (go_ret; refine ⟨ret_int (HNo.out ?_), (Below.refl _ _).alloc (Nat.le_refl _) _⟩; clear HNo HYes HLong; simp only [formed, HK.out, only, em_dec]; generalize h.ns.length = nl at *; by_cases htl : h.t.toList = [] <;> simp_all <;> omega)
  | skip
 all_goals
  go_loopw [8] (fun i wr => i = .int .i64 0 /\ wr.cell? ⟨w.heap.size, 5, none⟩ = some (.slice ka 0 kc) /\ Hid (Below w.heap.size w wr)) (fun _ _ => 0)
  case atStart =>
   refine ⟨rfl, ?_, (Below.refl _ _).alloc (Nat.le_refl _) _⟩
   simp [World.cell?_alloc_new]
  case round =>
   obtain ⟨rfl, hc, HB⟩ := hrel
   go_wp2
   go_ret
   refine ⟨ret_int (HYes.out ?_ ?_ ?_), HB.out⟩
   . clear HNo HYes HLong
     simp only [formed, HK.out, only, em_dec]
     generalize h.ns.length = nl at *
     by_cases htl : h.t.toList = [] <;> simp_all <;> omega
   . omega
   . assumption
theorem rcheck_6 (h : Hd) (na : Option Addr) (nc : Nat) (ka : Option Addr) (kl kc : Nat) (hk : h.k = 6) (hl : h.t.size <= 140737488355328) (d : Int) (hd : d <= 16) (w : World) :
 Calls Tryz.prog 44 #[.agg #[.int .i64 h.k, .int .i64 h.n, .int .i64 h.s, .string h.t, .slice na h.ns.length nc, .slice ka kl kc], .int .i64 d] w fun e w' => e = .returned (.int .i64 (own h kl)) /\ Below w.heap.size w w' := by
 have HK : Hid (h.k = 6) := hk
 have HNo : Hid (formed h kl = false -> 3 = own h kl) := own_no
 have HYes : Hid (formed h kl = true -> kl = 0 -> h.t.size <= 16384 -> 0 = own h kl) := fun hf hl ht => own_leaf hf (by omega) ht hl
 have HLong : Hid (formed h kl = true -> 16384 < h.t.size -> 5 = own h kl) := own_long
 generalize own h kl = R at *
 go_enter Tryz.func44, Tryz.ntmps44
 go_wp2
 all_goals first
  | (go_ret; refine ⟨ret_int (HNo.out ?_), (Below.refl _ _).alloc (Nat.le_refl _) _⟩; clear HNo HYes HLong; simp only [formed, HK.out, only, em_dec]; generalize h.ns.length = nl at *; by_cases htl : h.t.toList = [] <;> simp_all <;> omega)
  | (go_ret; refine ⟨ret_int (HLong.out ?_ (by omega)), (Below.refl _ _).alloc (Nat.le_refl _) _⟩; clear HNo HYes HLong; simp only [formed, HK.out, only, em_dec]; generalize h.ns.length = nl at *; by_cases htl : h.t.toList = [] <;> simp_all <;> omega)
  | skip
 all_goals
  go_loopw [8] (fun i wr => i = .int .i64 0 /\ wr.cell? ⟨w.heap.size, 5, none⟩ = some (.slice ka 0 kc) /\ Hid (Below w.heap.size w wr)) (fun _ _ => 0)
  case atStart =>
   refine ⟨rfl, ?_, (Below.refl _ _).alloc (Nat.le_refl _) _⟩
   simp [World.cell?_alloc_new]
  case round =>
   obtain ⟨rfl, hc, HB⟩ := hrel
   go_wp2
   go_ret
   refine ⟨ret_int (HYes.out ?_ ?_ ?_), HB.out⟩
   . clear HNo HYes HLong
     simp only [formed, HK.out, only, em_dec]
     generalize h.ns.length = nl at *
     by_cases htl : h.t.toList = [] <;> simp_all <;> omega
   . omega
   . omega
theorem rcheck_7 (h : Hd) (na : Option Addr) (nc : Nat) (ka : Option Addr) (kl kc : Nat) (hk : h.k = 7) (hl : h.t.size <= 140737488355328) (d : Int) (hd : d <= 16) (w : World) :
 Calls Tryz.prog 44 #[.agg #[.int .i64 h.k, .int .i64 h.n, .int .i64 h.s, .string h.t, .slice na h.ns.length nc, .slice ka kl kc], .int .i64 d] w fun e w' => e = .returned (.int .i64 (own h kl)) /\ Below w.heap.size w w' := by
 have HK : Hid (h.k = 7) := hk
 have HNo : Hid (formed h kl = false -> 3 = own h kl) := own_no
 have HYes : Hid (formed h kl = true -> kl = 0 -> h.t.size <= 16384 -> 0 = own h kl) := fun hf hl ht => own_leaf hf (by omega) ht hl
 have HLong : Hid (formed h kl = true -> 16384 < h.t.size -> 5 = own h kl) := own_long
 generalize own h kl = R at *
 go_enter Tryz.func44, Tryz.ntmps44
 go_wp2
 all_goals first
  | (go_ret; refine ⟨ret_int (HNo.out ?_), (Below.refl _ _).alloc (Nat.le_refl _) _⟩; clear HNo HYes HLong; simp only [formed, HK.out, only, em_dec]; generalize h.ns.length = nl at *; by_cases htl : h.t.toList = [] <;> simp_all <;> omega)
  | (go_ret; refine ⟨ret_int (HLong.out ?_ (by omega)), (Below.refl _ _).alloc (Nat.le_refl _) _⟩; clear HNo HYes HLong; simp only [formed, HK.out, only, em_dec]; generalize h.ns.length = nl at *; by_cases htl : h.t.toList = [] <;> simp_all <;> omega)
  | skip
 all_goals
  go_loopw [8] (fun i wr => i = .int .i64 0 /\ wr.cell? ⟨w.heap.size, 5, none⟩ = some (.slice ka 0 kc) /\ Hid (Below w.heap.size w wr)) (fun _ _ => 0)
  case atStart =>
   refine ⟨rfl, ?_, (Below.refl _ _).alloc (Nat.le_refl _) _⟩
   simp [World.cell?_alloc_new]
  case round =>
   obtain ⟨rfl, hc, HB⟩ := hrel
   go_wp2
   go_ret
   refine ⟨ret_int (HYes.out ?_ ?_ ?_), HB.out⟩
   . clear HNo HYes HLong
     simp only [formed, HK.out, only, em_dec]
     generalize h.ns.length = nl at *
     by_cases htl : h.t.toList = [] <;> simp_all <;> omega
   . omega
   . omega
end Go.Proofs.YtpfiejmhnkcjbaaGreatDoor
namespace Go.Proofs.YtpfiejmhnkcjbaaGreatDoor
set_option maxHeartbeats 400000
open Go.RowKit Go.ChangeShapes Go.WideShapes Math
set_option linter.unusedVariables false
theorem zig_any (v : Int) (h1 : -9223372036854775808 <= v) (h2 : v <= 9223372036854775807) (w : World) :
 Calls Tryz.prog 175 #[.int .i64 v] w fun e w' => e = .returned (.int .u64 (zigS v)) /\ w' = w := by
 have hz := zig_bits v h1 h2
 go_enter Tryz.func175, Tryz.ntmps175
 go_wp2
 go_ret
 exact ⟨rfl, rfl⟩
theorem zigr_any (v : Int) (h1 : -9223372036854775808 <= v) (h2 : v <= 9223372036854775807) (w : World) :
 Calls Tryz.prog 147 #[.int .i64 v] w fun e w' => e = .returned (.int .u64 (zigS v)) /\ w' = w := by
 by_cases h : 0 <= v
 . have HZ : Hid (zigS v = 2 * v) := by show _ = _; unfold zigS; rw [if_pos h]
   go_enter Tryz.func147, Tryz.ntmps147
   go_wp2
   go_ret
   exact ⟨ret_int HZ.out.symm, rfl⟩
 . have HZ : Hid (zigS v = 2 * -(v + 1) + 1) := by show _ = _; unfold zigS; rw [if_neg h]
   go_enter Tryz.func147, Tryz.ntmps147
   go_wp2
   go_ret
   exact ⟨ret_int HZ.out.symm, rfl⟩
end Go.Proofs.YtpfiejmhnkcjbaaGreatDoor
namespace Go.Proofs.YtpfiejmhnkcjbaaGreatDoor
set_option maxHeartbeats 4000000
set_option maxRecDepth 8000
open Go.RowKit
set_option linter.unusedVariables false
def RIh (F : Nat) (p : Vt) : Prop := ∀ q : Vt, wt q < wt p -> WfV q -> ∀ (na : Option Addr) (nc : Nat) (ka : Option Addr) (kc : Nat) (d : Int) (W : World), 0 <= d -> d <= 17 -> Vl W q na nc ka kc ->
 Calls Tryz.prog F #[.agg #[.int .i64 q.1.k, .int .i64 q.1.n, .int .i64 q.1.s, .string q.1.t, .slice na q.1.ns.length nc, .slice ka q.2.list.length kc], .int .i64 d] W fun e w' => e = .returned (.int .i64 (chkV q d)) /\ Below W.heap.size W w'
theorem chkV_own {p : Vt} {d : Int} (hd : d <= 16) (h : own p.1 p.2.list.length ≠ 0) : own p.1 p.2.list.length = chkV p d := by
 simp only [chkV]
 rw [if_neg (by omega), if_pos h]
theorem chkV_kids {p : Vt} {d : Int} (hd : d <= 16) (h : own p.1 p.2.list.length = 0) : chkV p d = chk p.2 (d + 1) := by
 simp only [chkV]
 rw [if_neg (by omega), if_neg (by simp [h])]
theorem own_kids {h : Hd} {kl : Nat} (hf : formed h kl = true) (ht : h.t.toList = []) (hl : kl <= 200) (hn : h.k = 9 -> named h.ns kl = true) : own h kl = 0 := by
 have := size_nil ht
 simp only [own, hf, if_true]
 rw [if_neg (by omega), if_neg]
 rintro ⟨h1, h2⟩
 rw [hn h1] at h2
 cases h2
theorem own_many {h : Hd} {kl : Nat} (hf : formed h kl = true) (hl : 200 < kl) : 5 = own h kl := by
 simp only [own, hf, if_true]
 rw [if_pos (by omega)]
theorem chk_step {f : Fo} {k : Nat} {q : Vt} {d : Int} (h : f.list[k]? = some q) : chk (f.drop k) d = if chkV q d ≠ 0 then chkV q d else chk (f.drop (k + 1)) d := by
 rw [Fo.drop_at f k q h, chk_cons]
theorem NdV.below {w w' : World} {b o : Nat} {p : Vt} (h : NdV w b o p) (hb : Below w.heap.size w w') : NdV w' b o p := by
 obtain ⟨na, nc, ka, kc, h1, h2⟩ := h
 exact ⟨na, nc, ka, kc, h1.below hb, h2.below hb⟩
theorem Vl.kid {w wr : World} {p : Vt} {na ka : Option Addr} {nc kc : Nat} (h : Vl w p na nc ka kc) (hb : Below w.heap.size w wr) {k : Nat} (hk : k < p.2.list.length) :
 ∃ q b o na' nc' ka' kc', p.2.list[k]? = some q /\ ka = some ⟨b, o, none⟩ /\ Nd wr b (o + k * 6) q.1 na' nc' ka' q.2.list.length kc' /\ Vl wr q na' nc' ka' kc' := by
 obtain ⟨q, hq⟩ : ∃ q, p.2.list[k]? = some q := ⟨_, List.getElem?_eq_getElem hk⟩
 obtain ⟨b, o, e, hn⟩ := h.slc.get hq
 obtain ⟨na', nc', ka', kc', h1, h2⟩ := hn.below hb
 exact ⟨q, b, o, na', nc', ka', kc', hq, e, h1, h2⟩
theorem box_nd {w W : World} {h : Hd} {na ka : Option Addr} {nc kl kc : Nat} (hb : Below (w.alloc (.cells #[.int .i64 h.k, .int .i64 h.n, .int .i64 h.s, .string h.t, .slice na h.ns.length nc, .slice ka kl kc] 41)).heap.size (w.alloc (.cells #[.int .i64 h.k, .int .i64 h.n, .int .i64 h.s, .string h.t, .slice na h.ns.length nc, .slice ka kl kc] 41)) W) : Nd W w.heap.size 0 h na nc ka kl kc :=
 ⟨box_get (six h na nc ka kl kc) 41 hb 0 _ rfl, box_get (six h na nc ka kl kc) 41 hb 1 _ rfl, box_get (six h na nc ka kl kc) 41 hb 2 _ rfl, box_get (six h na nc ka kl kc) 41 hb 3 _ rfl, box_get (six h na nc ka kl kc) 41 hb 4 _ rfl, box_get (six h na nc ka kl kc) 41 hb 5 _ rfl⟩
theorem rcheck_8 (p : Vt) (ih : RIh 44 p) (hwf : WfV p) (na : Option Addr) (nc : Nat) (ka : Option Addr) (kc : Nat) (hk : p.1.k = 8) (d : Int) (hd0 : 0 <= d) (hd : d <= 16) (w : World) (hv : Vl w p na nc ka kc) :
 Calls Tryz.prog 44 #[.agg #[.int .i64 p.1.k, .int .i64 p.1.n, .int .i64 p.1.s, .string p.1.t, .slice na p.1.ns.length nc, .slice ka p.2.list.length kc], .int .i64 d] w fun e w' => e = .returned (.int .i64 (chkV p d)) /\ Below w.heap.size w w' := by
 have HI : Hid (RIh 44 p) := ih
 have HW : Hid (WfV p) := hwf
 have hkl := hwf.2.1
 have htl := hwf.1.t1
 have HNo : Hid (formed p.1 p.2.list.length = false -> 3 = chkV p d) := fun h => (own_no h).trans (chkV_own hd (by rw [<- own_no h]; decide))
 have HMany : Hid (formed p.1 p.2.list.length = true -> 200 < p.2.list.length -> 5 = chkV p d) := fun h h2 => (own_many h h2).trans (chkV_own hd (by rw [<- own_many h h2]; decide))
 have HYes : Hid (formed p.1 p.2.list.length = true -> p.1.t.toList = [] -> p.2.list.length <= 200 -> chkV p d = chk (p.2.drop 0) (d + 1)) := fun h1 h2 h3 => chkV_kids hd (own_kids h1 h2 h3 (by omega))
 generalize chkV p d = R at *
 have b0 : Below w.heap.size w (w.alloc (.cells #[.int .i64 p.1.k, .int .i64 p.1.n, .int .i64 p.1.s, .string p.1.t, .slice na p.1.ns.length nc, .slice ka p.2.list.length kc] 41)) := (Below.refl _ _).alloc (Nat.le_refl _) _
 obtain ⟨w1, HW1⟩ : ∃ w1, Hid (w.alloc (.cells #[.int .i64 p.1.k, .int .i64 p.1.n, .int .i64 p.1.s, .string p.1.t, .slice na p.1.ns.length nc, .slice ka p.2.list.length kc] 41) = w1) := ⟨_, rfl⟩
 have HC : Hid (∀ W, Below w1.heap.size w1 W -> Nd W w.heap.size 0 p.1 na nc ka p.2.list.length kc) := fun W hb => by rw [<- HW1.out] at hb; exact box_nd hb
 have HV : Hid (Vl w1 p na nc ka kc) := by have := hv.below b0; rw [HW1.out] at this; exact this
 have HB0 : Hid (Below w.heap.size w w1) := by rw [<- HW1.out]; exact b0
 generalize hKL : p.2.list.length = kl at *
 generalize hNL : p.1.ns.length = nl at *
 have HKL : Hid (p.2.list.length = kl) := hKL
 have HNL : Hid (p.1.ns.length = nl) := hNL
 have HFm : Hid (formed p.1 kl = (decide (p.1.n = 0) && decide (p.1.s = 0) && decide (p.1.t.toList = []) && decide (nl = 0))) := by
  show _ = _
  simp [formed, hk, only, em_dec, hNL]
 clear hKL hNL
 by_cases hE : p.1.n = 0 /\ p.1.s = 0 /\ p.1.t.toList = [] /\ nl = 0
 case neg =>
  have HF := HNo.out (by rw [HFm.out]; simp; intro h1 h2 h3 h4; exact hE ⟨h1, h2, h3, h4⟩)
  clear hv ih hwf b0
  subst HF
  clear HC HV HI HW HNo HMany HYes HW1 HB0 HKL HNL HFm
  go_enter Tryz.func44, Tryz.ntmps44
  go_wp2
  all_goals first
   | (go_ret; exact ⟨rfl, (Below.refl _ _).alloc (Nat.le_refl _) _⟩)
   | (exfalso; apply hE; simp_all)
 obtain ⟨hn, hs, ht, hns⟩ := hE
 have hfm : formed p.1 kl = true := by rw [HFm.out]; simp [hn, hs, ht, hns]
 subst hns
 by_cases hL : 200 < kl
 . have HF := HMany.out hfm hL
   clear hv ih hwf b0
   subst HF
   clear HC HV HI HW HNo HMany HYes HW1 HB0 hfm HKL HNL HFm
   have hL2 : decide ((200 : Int) < (kl : Int)) = true := by simp; omega
   go_enter Tryz.func44, Tryz.ntmps44
   go_wp2
   all_goals first
    | (go_ret; exact ⟨rfl, (Below.refl _ _).alloc (Nat.le_refl _) _⟩)
    | (exfalso; omega)
 have HR : Hid (R = chk (p.2.drop 0) (d + 1)) := HYes.out hfm ht (by omega)
 clear hv ih hwf b0 HNo HMany HYes hfm HFm
 by_cases h0 : kl = 0
 case pos =>
  go_enter Tryz.func44, Tryz.ntmps44
  go_wp2
  generalize hWW : World.alloc w _ = W1
  obtain rfl : w1 = W1 := by rw [<- hWW, <- HW1.out]; simp [*]
  clear hWW HW1
  go_loopw [8, 9] (fun i _ wr => ∃ k : Nat, k <= kl /\ i = .int .i64 (k : Int) /\ Hid (Below w1.heap.size w1 wr) /\ Hid (R = chk (p.2.drop k) (d + 1))) (fun i _ _ => kl - (intOf i).toNat)
  case atStart => exact ⟨0, by omega, rfl, Below.refl _ _, HR.out⟩
  case round =>
   obtain ⟨k, hk0, rfl, HB, HRk⟩ := hrel
   obtain ⟨_, _, _, _, _, c5⟩ := HC.out wr HB.out
   simp only [Nat.zero_add] at c5
   have hlt : ¬ k < kl := by omega
   go_wp2
   go_ret
   exact ⟨ret_int (by rw [HRk.out, Fo.drop_end _ _ (by rw [HKL.out]; omega)]; rfl), HB0.out.trans (HB.out.mono HB0.out.size)⟩
 case neg =>
  go_enter Tryz.func44, Tryz.ntmps44
  go_wp2
  generalize hWW : World.alloc w _ = W1
  obtain rfl : w1 = W1 := by rw [<- hWW, <- HW1.out]; simp [*]
  clear hWW HW1
  go_loopw [8, 9] (fun i _ wr => ∃ k : Nat, k <= kl /\ i = .int .i64 (k : Int) /\ Hid (Below w1.heap.size w1 wr) /\ Hid (R = chk (p.2.drop k) (d + 1))) (fun i _ _ => kl - (intOf i).toNat)
  case atStart => exact ⟨0, by omega, rfl, Below.refl _ _, HR.out⟩
  case round =>
   obtain ⟨k, hk0, rfl, HB, HRk⟩ := hrel
   obtain ⟨_, _, _, _, _, c5⟩ := HC.out wr HB.out
   simp only [Nat.zero_add] at c5
   by_cases hlt : k < kl
   case neg =>
    go_wp2
    go_ret
    exact ⟨ret_int (by rw [HRk.out, Fo.drop_end _ _ (by rw [HKL.out]; omega)]; rfl), HB0.out.trans (HB.out.mono HB0.out.size)⟩
   obtain ⟨q, b, o, na', nc', ka', kc', hq, rfl, hnd, hvl⟩ := HV.out.kid HB.out (k := k) (by rw [HKL.out]; exact hlt)
   have HQ := HI.out q (wt_kid (List.mem_of_getElem? hq)) (HW.out.kid (List.mem_of_getElem? hq)) na' nc' ka' kc' (d + 1) wr (by omega) (by omega) hvl
   have HS : Hid (R = if chkV q (d + 1) ≠ 0 then chkV q (d + 1) else chk (p.2.drop (k + 1)) (d + 1)) := HRk.out.trans (chk_step hq)
   obtain ⟨d0, d1, d2, d3, d4, d5⟩ := hnd
   generalize chkV q (d + 1) = E at *
   clear hvl hq HRk
   go_wp2_with fail
   refine HQ.mono ?_
   rintro e w2 ⟨rfl, hb2⟩
   have HB2 : Hid (Below w1.heap.size w1 w2) := HB.out.trans (hb2.mono HB.out.size)
   clear HQ hb2
   by_cases hE : E = 0
   . subst hE
     go_wp2
     go_roundw
     case rel => exact ⟨k + 1, by omega, by go_num, HB2.out, show R = _ by simpa using HS.out⟩
     case measure => simp [intOf]; omega
   . go_wp2
     go_ret
     exact ⟨ret_int (by rw [HS.out, if_pos hE]), HB0.out.trans (HB2.out.mono HB0.out.size)⟩
end Go.Proofs.YtpfiejmhnkcjbaaGreatDoor
