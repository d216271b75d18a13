/-
  Range: what it hands on of a tree.
-/
import Derived.Test.YteokjfpppmnebaaIc
import Derived.Test.YteokjfpppmnebaaNj
import Derived.Test.YteokjfpppmnebaaPh
import Derived.Defers
namespace Go.Proofs.Yteokjfpppmnebaa
open Go.RowKit Go.Shelf
set_option linter.unusedVariables false
set_option linter.unusedSimpArgs false
/-- The readers of a root. -/
theorem Nd.reads {w : World} {b : Nat} {lv : Int} {ss : List Sl} {nx : Option Nat} {rd : Int} (h : Nd w b lv ss nx rd) (v : Int) : Nd (w.setCell ⟨b, 51, none⟩ (.int .i64 v)) b lv ss nx v := by
  refine ⟨?_, h.le⟩
  have e : nC lv ss nx v = (nC lv ss nx rd).set 51 (.int .i64 v) := by
    unfold nC
    rw [List.set_append_right _ _ (by simp), List.set_append_right _ _ (by rw [rowC_len, pad_len h.le]; simp)]
    simp [rowC_len, pad_len h.le]
  rw [e]
  exact h.blk.set 51 _
theorem Mem.reads {w : World} : ∀ {l : Nat} {t : B} {nx : Option Nat} {rd : Int}, Mem w l t nx rd → (fps l t).Nodup → ∀ v, Mem (w.setCell ⟨t.bk, 51, none⟩ (.int .i64 v)) l t nx v
  | 0, .lf b es, nx, rd, h, _, v => Nd.reads h v
  | 0, .nd _ _, _, _, h, _, _ => h.elim
  | _ + 1, .lf _ _, _, _, h, _, _ => h.elim
  | l + 1, .nd b ks, nx, rd, h, hn, v => by
    refine ⟨Nd.reads h.1 v, chain.mono h.2 fun p hp nx hm => Mem.upd (Upd.of_by (grown_setCell w ⟨b, 51, none⟩ _)) hm fun x hx => ?_⟩
    simp only [fps, List.nodup_cons, List.mem_flatMap, not_exists, not_and] at hn
    simp only [List.mem_singleton]
    rintro rfl
    exact hn.1 p hp hx
/-- rise as the closure that read calls. -/
theorem rise_clo (m l : Nat) (t : B) (rd : Int) (frm to : ByteArray) (N : Nat → Prop) (r lp b4 b5 b6 : Nat) (J Jx : List E → World → Prop) (w : World) (hM : Mem w l t none rd) (ho : Ok l t) (hN : ∀ x ∈ fps l t, N x)
    (hsz : ∀ e ∈ ents l t, e.1.size ≤ 281474976710656) (hJ : Abid r J) (hJx : Abid r Jx) (xs : List E) (hxs : xs = upto to ((ents l t).drop (pos l t frm)))
    (hY : ∀ k pre x W1, J pre W1 → (∃ post, xs = pre ++ x :: post) → RoundT k lp N J Jx pre x W1) (h0 : J [] w)
    (c4 : w.cell? ⟨b4, 0, none⟩ = some (.string frm)) (c5 : w.cell? ⟨b5, 0, none⟩ = some (.string to)) (c6 : w.cell? ⟨b6, 0, none⟩ = some (.func (.yield lp) #[] #[])) :
    Calls Try.prog 36 #[.pointer (some ⟨t.bk, 0, none⟩), .pointer (some ⟨b4, 0, none⟩), .pointer (some ⟨b5, 0, none⟩), .pointer (some ⟨b6, 0, none⟩)] w fun e w' => e = .returned (.tuple #[]) ∧ Hid (Kp N w w' ∧ (J xs w' ∨ ∃ pre x post, xs = pre ++ x :: post ∧ Jx (pre ++ [x]) w')) := by
  have K := callsIn_wide.1 (rise_any m l t rd frm to N r lp J Jx w hM ho hN hsz hJ hJx xs hxs hY h0)
  clear hM ho hN hsz hJ hJx hxs hY h0
  go_enter Try.func36, Try.ntmps36
  go_wp2_with fail
  refine K.mono ?_
  rintro e w' ⟨rfl, H⟩
  clear K
  go_wp2
  go_end0
  exact ⟨rfl, H.out⟩
theorem read1_d (rb tb : Nat) (u : FrameMode) (w : World) (hb : w.cell? ⟨rb, 0, none⟩ = some (.pointer (some ⟨tb, 0, none⟩))) (hc : w.cell? ⟨tb, 51, none⟩ = some (.int .i64 1)) (hz : w.frozen? ⟨tb, 51, none⟩ = false) :
    CallsD Try.prog 50 #[.pointer (some ⟨rb, 0, none⟩)] u w fun e u' w' => u' = u ∧ (e = .returned (.tuple #[]) ∧ w' = w.setCell ⟨tb, 51, none⟩ (.int .i64 0)) := by
  go_enter_d Try.func50, Try.ntmps50
  go_wp2
  go_end0
  exact ⟨rfl, rfl⟩
set_option maxRecDepth 8000 in
set_option maxHeartbeats 1000000 in
theorem read_any (g tb n nd : Nat) (lv : Int) (ss : List Sl) (nx : Option Nat) (k : Nat) (caps : List Value) (w : World) (hg : Blk w g 55 (tC (some tb) n nd)) (hn : Nd w tb lv ss nx 0)
    (hent : ∀ (args : Array Value) (w : World), (callFunc k args).run Try.prog w = .ok (.enter k args) w) (Q : World → Prop)
    (hact : ∀ rb w0 w1, w.heap.size ≤ rb → Below w.heap.size w w0 → w1 = w0.setCell ⟨tb, 51, none⟩ (.int .i64 1) → Blk w1 rb 53 [.pointer (some ⟨tb, 0, none⟩)] → Nd w1 tb lv ss nx 1 →
      Calls Try.prog k (.pointer (some ⟨tb, 0, none⟩) :: caps).toArray w1 fun e w' => e = .returned (.tuple #[]) ∧ Hid (Blk w' rb 53 [.pointer (some ⟨tb, 0, none⟩)] ∧ Nd w' tb lv ss nx 1 ∧ Q w')) :
    Calls Try.prog 35 #[.pointer (some ⟨g, 0, none⟩), .func (.func k) #[] caps.toArray] w fun e w' => e = .returned (.tuple #[]) ∧ Hid (∃ w1, Q w1 ∧ w' = w1.setCell ⟨tb, 51, none⟩ (.int .i64 0)) := by
  have HA : Hid (∀ rb w0 w1, w.heap.size ≤ rb → Below w.heap.size w w0 → w1 = w0.setCell ⟨tb, 51, none⟩ (.int .i64 1) → Blk w1 rb 53 [.pointer (some ⟨tb, 0, none⟩)] → Nd w1 tb lv ss nx 1 →
      Calls Try.prog k (.pointer (some ⟨tb, 0, none⟩) :: caps).toArray w1 fun e w' => e = .returned (.tuple #[]) ∧ Hid (Blk w' rb 53 [.pointer (some ⟨tb, 0, none⟩)] ∧ Nd w' tb lv ss nx 1 ∧ Q w')) := hact
  have HN : Hid (Nd w tb lv ss nx 0) := hn
  have c0 : w.cell? ⟨g, 0, none⟩ = some (.pointer (some ⟨tb, 0, none⟩)) := hg.cell 0
  clear hact hn hg
  go_enter_defers Try.func35, Try.ntmps35
  go_wp2_with (refine al_zero rfl 53 rfl [.pointer none] (by kernel_rfl) ?_)
  intro rb w2 l2 B2 G2
  go_wp2_with (refine st_one rfl 53 (.tmp 4) (.tmp 17) rfl rb 0 53 [.pointer none] (.pointer (some ⟨tb, 0, none⟩)) rfl rfl rfl rfl (by show 0 < 1; decide) B2 s53 ?_)
  intro w3 B3 G3
  have B3 : Blk w3 rb 53 [.pointer (some ⟨tb, 0, none⟩)] := B3
  have HB3 : Hid (Below w.heap.size w w3) := ((Below.refl w.heap.size w).grown G2 (Nat.le_refl _) (by simp)).grown G3 G2.size (fun k e => by injection e with e; omega)
  have HN3 : Hid (Nd w3 tb lv ss nx 0) := HN.out.below HB3.out HN.out.lt
  have htb : tb ≠ rb := by have := HN.out.lt; omega
  have cb : w3.cell? ⟨rb, 0, none⟩ = some (.pointer (some ⟨tb, 0, none⟩)) := B3.cell 0
  have c51 : w3.cell? ⟨tb, 51, none⟩ = some (.int .i64 0) := HN3.out.read
  have f51 : w3.frozen? ⟨tb, 51, none⟩ = false := HN3.out.blk.frozen 51
  obtain ⟨w4, hw4⟩ : ∃ w4, w3.setCell ⟨tb, 51, none⟩ (.int .i64 1) = w4 := ⟨_, rfl⟩
  have B4 : Hid (Blk w4 rb 53 [.pointer (some ⟨tb, 0, none⟩)]) := by rw [← hw4]; exact B3.setOther htb _
  have HN4 : Hid (Nd w4 tb lv ss nx 1) := by rw [← hw4]; exact HN3.out.reads 1
  have K := HA.out rb w3 w4 l2 HB3.out hw4.symm B4.out HN4.out
  have cb4 : w4.cell? ⟨rb, 0, none⟩ = some (.pointer (some ⟨tb, 0, none⟩)) := B4.out.cell 0
  clear B2 G2 B3 G3 HA HN HB3 HN3 l2 HN4 B4
  go_wp2_with fail
  refine K.mono ?_
  clear K
  rintro e w5 ⟨rfl, H⟩
  have d1 : w5.cell? ⟨rb, 0, none⟩ = some (.pointer (some ⟨tb, 0, none⟩)) := H.out.1.cell 0
  have d2 : w5.cell? ⟨tb, 51, none⟩ = some (.int .i64 1) := H.out.2.1.read
  have d3 : w5.frozen? ⟨tb, 51, none⟩ = false := H.out.2.1.blk.frozen 51
  go_wp2
  refine leaves_cons (f := 50) (args := #[.pointer (some ⟨rb, 0, none⟩)]) (by simp) (by simp [go_sem]) ?_
  refine (read1_d rb tb .returning _ d1 d2 d3).mono ?_
  rintro e u' w'' ⟨rfl, rfl, rfl⟩
  exact ⟨_, results_none rfl _ _ _, rfl, w5, H.out.2.2, rfl⟩
#print axioms read_any
end Go.Proofs.Yteokjfpppmnebaa
