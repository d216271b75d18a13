/-
  codec's checkShell.
-/
import Derived.Test.YtimddoaejldgaaaXm
namespace Go.Proofs.Ytimddoaejldgaaa
open Go.RowKit Math
set_option linter.unusedVariables false
set_option linter.unusedSimpArgs false
/-- So many that are Null. -/
def nuls : Nat → Fo
  | 0 => .nil
  | n + 1 => .cons (lf 1 0 0 em).1 .nil (nuls n)
theorem nuls_len : ∀ n, (nuls n).list.length = n
  | 0 => rfl
  | n + 1 => by simp [nuls, Fo.list, nuls_len n]
theorem nuls_wf : ∀ n, Wf (nuls n)
  | 0 => trivial
  | n + 1 => ⟨wf_lf 1 0 0 em (by omega) (by omega) (by omega) (by decide), nuls_wf n⟩
theorem nuls_at {w : World} {g : Nat} : ∀ (n o : Nat), (∀ j v, (reps n)[j]? = some v → w.cell? ⟨g, o + j, none⟩ = some v) → At w (nuls n) g o
  | 0, o, h => trivial
  | n + 1, o, h => by
    refine ⟨⟨none, 0, none, 0, ⟨h 0 _ rfl, h 1 _ rfl, h 2 _ rfl, h 3 _ rfl, h 4 _ rfl, h 5 _ rfl⟩, .inl rfl, ⟨Nat.le_refl _, fun _ => rfl, by decide⟩, .inl rfl, ⟨Nat.le_refl _, fun _ => rfl, by decide⟩⟩, nuls_at n (o + 6) fun j v hj => ?_⟩
    have := h (6 + j) v (by
      rw [reps, List.getElem?_append_right (by simp [nul6])]
      simpa [nul6] using hj)
    rw [show o + 6 + j = o + (6 + j) by omega]
    exact this
set_option maxRecDepth 8000 in
set_option maxHeartbeats 1000000 in
theorem shell_any (h : Hd) (hh : Hok h) (na : Option Addr) (nc : Nat) (ka : Option Addr) (kl kc n : Nat) (hn : n ≤ 65536) (W : World) (hN : Nms W na h.ns) (hC : Cap na h.ns.length nc) :
    Calls Try.prog 76 #[.agg #[.int .i64 h.k, .int .i64 h.n, .int .i64 h.s, .string h.t, .slice na h.ns.length nc, .slice ka kl kc], .int .i64 (n : Int)] W fun e w' => e = .returned (.int .i64 (chkV (h, nuls n) 1)) ∧ Hid (Below W.heap.size W w') := by
  obtain ⟨E, HE⟩ : ∃ E, Hid (chkV (h, nuls n) 1 = E) := ⟨_, rfl⟩
  rw [HE.out]
  obtain ⟨W2, HW2⟩ : ∃ W2, Hid ((W.alloc (.cells #[.int .i64 h.k, .int .i64 h.n, .int .i64 h.s, .string h.t, .slice na h.ns.length nc, .slice ka kl kc] 25)).alloc (.cells #[.int .i64 1, .int .i64 0, .int .i64 0, .string ⟨#[]⟩, .slice none 0 0, .slice none 0 0] 25) = W2) := ⟨_, rfl⟩
  have HBW : Hid (Below W.heap.size W W2) := by rw [← HW2.out]; exact ((Below.refl _ _).alloc (Nat.le_refl _) _).alloc (by simp) _
  have HX : Hid (Blk W2 W.heap.size 25 (six h na nc ka kl kc)) := by rw [← HW2.out]; exact (blk_new W 25 (six h na nc ka kl kc)).alloc _
  have HY : Hid (Blk W2 (W.heap.size + 1) 25 nul6) := by
    rw [← HW2.out]
    have hk := blk_new (W.alloc (.cells #[.int .i64 h.k, .int .i64 h.n, .int .i64 h.s, .string h.t, .slice na h.ns.length nc, .slice ka kl kc] 25)) 25 nul6
    rw [show (W.alloc (.cells #[.int .i64 h.k, .int .i64 h.n, .int .i64 h.s, .string h.t, .slice na h.ns.length nc, .slice ka kl kc] 25)).heap.size = W.heap.size + 1 by simp] at hk
    exact hk
  have HNm : Hid (Nms W na h.ns) := hN
  have HCp : Hid (Cap na h.ns.length nc) := hC
  have HHk : Hid (Hok h) := hh
  have KR := repeat_any n hn (W.heap.size + 1) W2 HY.out
  clear hN hC hh HY
  go_enter Try.func76, Try.ntmps76
  go_wp2_with fail
  generalize hWW : World.alloc (World.alloc W _) _ = W9
  obtain rfl : W2 = W9 := by rw [← hWW, ← HW2.out]
  clear hWW HW2
  refine KR.mono ?_
  clear KR
  rintro e w3 ⟨g, rfl, H3⟩
  have HX3 : Hid (Blk w3 W.heap.size 25 (six h na nc ka kl kc)) := HX.out.below H3.out.2.2 HX.out.lt
  have HB3 : Hid (Below W.heap.size W w3) := HBW.out.trans (H3.out.2.2.mono HBW.out.size)
  have HR3 : Hid (Blk w3 g 25 (reps n) ∧ W2.heap.size ≤ g) := ⟨H3.out.1, H3.out.2.1⟩
  have hz : W.heap.size < W2.heap.size := HX.out.lt
  clear H3 HX HBW
  go_wp2_with (refine st_one rfl 23 (.tmp 9) (.tmp 8) rfl W.heap.size 5 25 _ (.slice (some ⟨g, 0, none⟩) n n) rfl rfl rfl rfl (by simp [six]) HX3.out s23 ?_)
  intro w4 B4 gr4
  have HB4 : Hid (Below W.heap.size W w4) := HB3.out.grown gr4 HB3.out.size (fun x e => by injection e with e; omega)
  have HVl : Hid (Vl w4 (h, nuls n) na nc (some ⟨g, 0, none⟩) n) := by
    refine ⟨HNm.out.below HB4.out, HCp.out, .inr ⟨g, 0, rfl, nuls_at n 0 fun j v hj => ?_⟩, ⟨by rw [nuls_len]; exact Nat.le_refl _, fun h => (by cases h), by omega⟩⟩
    have b4 : Blk w4 g 25 (reps n) := HR3.out.1.kept gr4 (by intro c; injection c with c; have := HR3.out.2; omega)
    rw [Nat.zero_add, b4.cell]
    exact hj
  have HWf : Hid (WfV (h, nuls n)) := ⟨HHk.out, by rw [nuls_len]; omega, nuls_wf n⟩
  have KC := vCheck_any (h, nuls n) HWf.out na nc (some ⟨g, 0, none⟩) n w4 HVl.out
  have hbk : Blk w4 W.heap.size 25 (six h na nc (some ⟨g, 0, none⟩) n n) := B4
  have c0 : w4.cell? ⟨W.heap.size, 0, none⟩ = some (.int .i64 h.k) := hbk.cell 0
  have c1 : w4.cell? ⟨W.heap.size, 1, none⟩ = some (.int .i64 h.n) := hbk.cell 1
  have c2 : w4.cell? ⟨W.heap.size, 2, none⟩ = some (.int .i64 h.s) := hbk.cell 2
  have c3 : w4.cell? ⟨W.heap.size, 3, none⟩ = some (.string h.t) := hbk.cell 3
  have c4 : w4.cell? ⟨W.heap.size, 4, none⟩ = some (.slice na h.ns.length nc) := hbk.cell 4
  have c5 : w4.cell? ⟨W.heap.size, 5, none⟩ = some (.slice (some ⟨g, 0, none⟩) n n) := hbk.cell 5
  simp only [nuls_len] at KC
  rw [HE.out] at KC
  clear hbk B4 gr4 HVl HWf HR3 HX3 HB3
  go_wp2_with fail
  refine KC.mono ?_
  rintro e w5 ⟨rfl, b5⟩
  have HB5 : Hid (Below W.heap.size W w5) := HB4.out.trans (b5.mono HB4.out.size)
  clear b5
  go_wp2
  go_ret
  exact ⟨rfl, HB5.out⟩
theorem nuls_chk : ∀ n, chk0 (nuls n) = 0
  | 0 => rfl
  | n + 1 => by
    have e : chk0 (nuls (n + 1)) = if chk0V (lf 1 0 0 em) ≠ 0 then chk0V (lf 1 0 0 em) else chk0 (nuls n) := rfl
    rw [e, nuls_chk n, show chk0V (lf 1 0 0 em) = 0 by kernel_rfl]
    rfl
theorem nuls_dp : ∀ n, dpF (nuls n) ≤ 1
  | 0 => by simp [nuls, dpF]
  | n + 1 => by have := nuls_dp n; simp only [nuls, dpF]; omega
theorem shell_own (h : Hd) (n : Nat) : chkV (h, nuls n) 1 = own h n := by
  rw [chkV_flat _ 1 (by have := nuls_dp n; simp only [dpV]; omega)]
  unfold chk0V
  rw [nuls_len, nuls_chk]
  by_cases h1 : own h n = 0 <;> simp [h1]
end Go.Proofs.Ytimddoaejldgaaa
