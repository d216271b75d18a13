/-
  Back: what its value hands on of a tree.
-/
import Derived.Test.YteokjfpppmnebaaIf
namespace Go.Proofs.Yteokjfpppmnebaa
open Go.RowKit Go.Shelf
set_option linter.unusedVariables false
set_option linter.unusedSimpArgs false
set_option maxRecDepth 8000 in
set_option maxHeartbeats 1000000 in
theorem back_gives (g l : Nat) (t : B) (n nd b3 b4 b5 : Nat) (frm to : ByteArray) (N : Nat → Prop) (w0 : World) (hg : Blk w0 g 55 (tC (some t.bk) n nd)) (hM : Mem w0 l t none 0) (ho : Ok l t) (hnd : (fps l t).Nodup)
    (hsz : ∀ e ∈ ents l t, e.1.size ≤ 281474976710656) (hc : Cap w0 b3 b4 b5 (some ⟨g, 0, none⟩) frm to) (hN : ∀ x ∈ fps l t, N x) (hNg : N g) (hN3 : N b3) (hN4 : N b4) (hN5 : N b5) (xs : List E) (hxs : xs = dnto frm (fl to l t)) :
    Gives 38 #[.pointer (some ⟨b3, 0, none⟩), .pointer (some ⟨b4, 0, none⟩), .pointer (some ⟨b5, 0, none⟩)] t.bk N w0 xs := by
  intro m lp J Jx W hW hJ hJx hY h0
  have hNt : N t.bk := hN _ (bk_fps l t)
  have hgW := hg.kp hW hNg
  have hMW : Mem W l t none 0 := hM.kp hW hN
  have hcW : Cap W b3 b4 b5 (some ⟨g, 0, none⟩) frm to := ⟨hc.t.kp hW hN3, hc.x.kp hW hN4, hc.y.kp hW hN5⟩
  have hNd0 := hM.nd
  obtain ⟨tb, htb⟩ : ∃ tb, t.bk = tb := ⟨_, rfl⟩
  obtain ⟨nx, hnx⟩ : ∃ nx, (if l = 0 then (none : Option Nat) else none) = nx := ⟨_, rfl⟩
  rw [htb, hnx] at hNd0
  rw [htb] at hJ hJx
  have HREAD : Hid (∀ b6 w1, W.heap.size ≤ b6 → W.grownBy w1 none → Blk w1 b6 51 [.func (.yield lp) #[] #[]] →
      Calls Try.prog 35 #[.pointer (some ⟨g, 0, none⟩), .func (.func 39) #[] #[.pointer (some ⟨b4, 0, none⟩), .pointer (some ⟨b5, 0, none⟩), .pointer (some ⟨b6, 0, none⟩)]] w1 fun e w' => e = .returned (.tuple #[]) ∧ Hid (Kp N w0 w' ∧ ∃ hi, (J hi xs w' ∨ ∃ pre x post, xs = pre ++ x :: post ∧ Jx hi (pre ++ [x]) w'))) := by
    intro b6 w1 l6 G1 B6
    have hg1 := hgW.kept G1 (by simp)
    have hM1 : Mem w1 l t none 0 := hMW.upd (Upd.of_none [] G1) (by simp)
    have hn1 := hM1.nd
    rw [htb, hnx] at hn1
    rw [htb] at hg1
    refine (read_any g tb n nd (l : Int) t.ss nx 39 [.pointer (some ⟨b4, 0, none⟩), .pointer (some ⟨b5, 0, none⟩), .pointer (some ⟨b6, 0, none⟩)] w1 hg1 hn1 (enters Try.func39 (by kernel_rfl) rfl)
      (fun w' => (∀ k, k < w0.heap.size → N k → k ≠ tb → w'.heap[k]? = w0.heap[k]?) ∧ Nd w' tb (l : Int) t.ss nx 1 ∧ (w'.os = w0.os ∧ w'.tape = w0.tape ∧ w'.output = w0.output ∧ w0.heap.size ≤ w'.heap.size) ∧ ∃ hi, (J hi xs w' ∨ ∃ pre x post, xs = pre ++ x :: post ∧ Jx hi (pre ++ [x]) w')) ?_).mono ?_
    · rintro rb w2 w3 hrb hb2 rfl hrB hrN
      have hM2 : Mem w2 l t none 0 := hM1.upd (Upd.of_below [] hb2) (by simp)
      have hM3 := hM2.reads hnd 1
      rw [htb] at hM3
      have htl : tb < W.heap.size := by have := hMW.nd.lt; rwa [htb] at this
      have hl1 : W.heap.size ≤ w1.heap.size := G1.size
      have hWg : W.grownBy (w2.setCell ⟨tb, 51, none⟩ (.int .i64 1)) (some tb) := ⟨hb2.os.trans G1.os, hb2.tape.trans G1.tape, hb2.output.trans G1.output, by simp [World.setCell]; exact Nat.le_trans hl1 hb2.size, fun k hk hne => by
        have h1 : (w2.setCell ⟨tb, 51, none⟩ (.int .i64 1)).heap[k]? = w2.heap[k]? := Below.heap_setCell _ _ _ _ (fun e => hne (by rw [e]))
        rw [h1, hb2.block k (by omega), G1.block k hk (by simp)]⟩
      obtain ⟨V, hV⟩ : ∃ V, w2.setCell ⟨tb, 51, none⟩ (.int .i64 1) = V := ⟨_, rfl⟩
      rw [hV] at hM3 hWg hrB hrN ⊢
      have ne4 : b4 ≠ tb := by
        rintro rfl
        have h1 := hcW.x
        have h2 := hMW.nd.blk
        rw [htb] at h2
        unfold Blk at h1 h2
        rw [h1] at h2
        injection h2 with h2
        injection h2 with _ h3
        exact absurd h3 (by decide)
      have ne5 : b5 ≠ tb := by
        rintro rfl
        have h1 := hcW.y
        have h2 := hMW.nd.blk
        rw [htb] at h2
        unfold Blk at h1 h2
        rw [h1] at h2
        injection h2 with h2
        injection h2 with _ h3
        exact absurd h3 (by decide)
      have c4 : V.cell? ⟨b4, 0, none⟩ = some (.string frm) := (hcW.x.kept hWg (fun e => ne4 (by injection e))).cell 0
      have c5 : V.cell? ⟨b5, 0, none⟩ = some (.string to) := (hcW.y.kept hWg (fun e => ne5 (by injection e))).cell 0
      have c6 : V.cell? ⟨b6, 0, none⟩ = some (.func (.yield lp) #[] #[]) := by
        rw [← hV]
        exact (((B6.below hb2 B6.lt).setOther (a := ⟨tb, 51, none⟩) (by show tb ≠ b6; omega) (.int .i64 1)).cell 0)
      have hVs : W.heap.size ≤ V.heap.size := hWg.size
      have hrV : rb < V.heap.size := hrB.lt
      have K := fall_clo m l t 1 frm to N tb lp b4 b5 b6 (fun pre U => J V.heap.size pre U ∧ (∀ k, W.heap.size ≤ k → k < V.heap.size → U.heap[k]? = V.heap[k]?) ∧ V.heap.size ≤ U.heap.size) (fun pre U => Jx V.heap.size pre U ∧ (∀ k, W.heap.size ≤ k → k < V.heap.size → U.heap[k]? = V.heap[k]?) ∧ V.heap.size ≤ U.heap.size) V hM3 ho hN hsz
        (fun s A B h q => ⟨hJ _ s A B h.1 q, fun k h1 h2 => (q.block k (by have := h.2.2; omega) (fun e => by injection e with e; omega)).trans (h.2.1 k h1 h2), Nat.le_trans h.2.2 q.size⟩)
        (fun s A B h q => ⟨hJx _ s A B h.1 q, fun k h1 h2 => (q.block k (by have := h.2.2; omega) (fun e => by injection e with e; omega)).trans (h.2.1 k h1 h2), Nat.le_trans h.2.2 q.size⟩)
        xs hxs
        (fun k pre x W1 hj hx => by
          obtain ⟨fn, tmps, assign, body, hy, hR⟩ := hY V.heap.size k pre x W1 hj.2.2 hj.1 hx
          refine ⟨fn, tmps, assign, body, hy, hR.mono ?_⟩
          rintro e W' (⟨rfl, h1, h2⟩ | ⟨rfl, h1, h2⟩)
          · exact .inl ⟨rfl, ⟨h1, fun k h3 h4 => (h2.2 k h3 h4).trans (hj.2.1 k h3 h4), Nat.le_trans hj.2.2 h2.1.size⟩, h2.1⟩
          · exact .inr ⟨rfl, ⟨h1, fun k h3 h4 => (h2.2 k h3 h4).trans (hj.2.1 k h3 h4), Nat.le_trans hj.2.2 h2.1.size⟩, h2.1⟩)
        ⟨hJ _ _ _ _ (h0 _ hVs) hWg, fun _ _ _ => rfl, Nat.le_refl _⟩ c4 c5 c6
      rw [htb] at K
      refine K.mono ?_
      rintro e w' ⟨rfl, H⟩
      obtain ⟨hk, hx⟩ := H.out
      have hmid : ∃ hi, (J hi xs w' ∨ ∃ pre x post, xs = pre ++ x :: post ∧ Jx hi (pre ++ [x]) w') := by
        rcases hx with h | ⟨pre, x, post, e, h⟩
        · exact ⟨_, .inl h.1⟩
        · exact ⟨_, .inr ⟨pre, x, post, e, h.1⟩⟩
      have hmd : ∀ k, W.heap.size ≤ k → k < V.heap.size → w'.heap[k]? = V.heap[k]? := by
        rcases hx with h | ⟨pre, x, post, e, h⟩
        · exact h.2.1
        · exact h.2.1
      have hNd3 : Nd w' tb (l : Int) t.ss nx 1 := hrN.kp hk (htb ▸ hNt)
      refine ⟨rfl, ?_, hNd3, ?_, hNd3, ⟨(hk.os.trans hWg.os).trans hW.os, (hk.tape.trans hWg.tape).trans hW.tape, (hk.output.trans hWg.output).trans hW.output, Nat.le_trans hW.size (Nat.le_trans hWg.size hk.size)⟩, hmid⟩
      · unfold Blk
        rw [hmd rb (by omega) hrV]
        exact hrB
      · intro k h1 h2 h3
        rw [hk.block k (by have := hW.size; omega) h2, hWg.block k (by have := hW.size; omega) (fun e => h3 (by injection e)), hW.block k h1 h2]
    · rintro e w' ⟨rfl, H⟩
      obtain ⟨V, ⟨q1, q2, ⟨q3, q4, q5, q6⟩, hi, q7⟩, rfl⟩ := H.out
      have hr0 : Nd (V.setCell ⟨tb, 51, none⟩ (.int .i64 0)) tb (l : Int) t.ss nx 0 := q2.reads 0
      have hgs := grown_setCell V ⟨tb, 51, none⟩ (.int .i64 0)
      refine ⟨rfl, ⟨q3, q4, q5, by simp [World.setCell]; exact q6, fun k h1 h2 => ?_⟩, hi, ?_⟩
      · by_cases e : k = tb
        · subst e
          have h3 := hr0.blk
          have h4 := hNd0.blk
          unfold Blk at h3 h4
          rw [h3, h4]
        · rw [Below.heap_setCell _ _ _ _ e]
          exact q1 k h1 h2 e
      · rcases q7 with h | ⟨pre, x, post, e, h⟩
        · exact .inl (hJ _ _ _ _ h hgs)
        · exact .inr ⟨pre, x, post, e, hJx _ _ _ _ h hgs⟩
  have c3 := hcW.t
  clear hg hM ho hnd hsz hc hN hNg hN3 hN4 hN5 hxs hW hJ hJx hY h0 hNt hgW hMW hcW hNd0 hnx htb
  refine callsIn_wide.2 ?_
  show Calls _ _ #[.func (.yield lp) #[] #[], .pointer (some ⟨b3, 0, none⟩), .pointer (some ⟨b4, 0, none⟩), .pointer (some ⟨b5, 0, none⟩)] _ _
  go_enter Try.func38, Try.ntmps38
  go_wp2_with (refine al_boxv rfl 51 (.tmp 0) rfl (.func (.yield lp) #[] #[]) rfl rfl ?_)
  intro b6 w1 l6 B6 G1
  have K := HREAD.out b6 w1 l6 G1 B6
  have d3 : w1.cell? ⟨b3, 0, none⟩ = some (.pointer (some ⟨g, 0, none⟩)) := (c3.kept G1 (by simp)).cell 0
  clear HREAD c3 B6 G1
  go_wp2_with fail
  refine K.mono ?_
  rintro e w' ⟨rfl, H⟩
  clear K
  go_wp2
  go_end0
  exact ⟨⟨_, rfl⟩, H.out⟩
#print axioms back_gives
end Go.Proofs.Yteokjfpppmnebaa
