/-
  The law's does: a step, in both.
-/
import Derived.Test.YteokjfpppmnebaaGi
import Derived.Test.YteokjfpppmnebaaGy
import Derived.Test.YteokjfpppmnebaaPr
namespace Go.Proofs.Yteokjfpppmnebaa
open Go.RowKit Go.Shelf
set_option linter.unusedVariables false
set_option linter.unusedSimpArgs false
theorem Mem.tags {w : World} : ∀ {l : Nat} {t : B} {nx : Option Nat} {rd : Int}, Mem w l t nx rd → ∀ x ∈ fps l t, ∃ vs, Blk w x 71 vs
  | 0, .lf b es, nx, rd, h, x, hx => by
    simp only [fps, List.mem_singleton] at hx
    subst hx
    exact ⟨_, Nd.blk h⟩
  | l + 1, .nd b ks, nx, rd, h, x, hx => by
    simp only [fps, List.mem_cons, List.mem_flatMap] at hx
    rcases hx with rfl | ⟨p, hp, hx⟩
    · exact ⟨_, h.1.blk⟩
    · obtain ⟨nx', hm⟩ := chain_mem h.2 p hp
      exact Mem.tags hm x hx
theorem TreeS.tag {w : World} {g : Nat} {T : Option (Nat × B)} {M : List E} (h : TreeS w g T M) : ∀ x ∈ g :: fpO T, ∃ t vs, Blk w x t vs ∧ (t = 55 ∨ t = 71) := by
  intro x hx
  have ht := h.tm
  cases T with
  | none =>
    obtain rfl : x = g := by simpa [fpO] using hx
    exact ⟨_, _, (ht : Blk w x 55 (tC none 0 0)), .inl rfl⟩
  | some lt =>
    obtain ⟨l, t⟩ := lt
    have ht : TreeM w g l t := ht
    rcases List.mem_cons.1 hx with rfl | hx
    · exact ⟨_, _, ht.tree, .inl rfl⟩
    · obtain ⟨vs, hv⟩ := ht.mem.tags x hx
      exact ⟨_, vs, hv, .inr rfl⟩
theorem RO.tag {w : World} {a : Nat} {K N : Value} {es : List E} (h : RO w a K N es) : ∀ x ∈ fpR a K N, ∃ t vs, Blk w x t vs ∧ (t = 31 ∨ t = 9 ∨ t = 3) := by
  intro x hx
  rcases mem_fpR.1 hx with rfl | hx | hx
  · exact ⟨_, _, h.tree, .inl rfl⟩
  · obtain ⟨cs, hc⟩ := row_tag h.key hx
    exact ⟨_, cs.toList, hc, .inr (.inl rfl)⟩
  · obtain ⟨cs, hc⟩ := row_tag h.num hx
    exact ⟨_, cs.toList, hc, .inr (.inr rfl)⟩
theorem blk_tag {w : World} {x : Nat} {t t' : TypeId} {vs vs' : List Value} (h : Blk w x t vs) (h' : Blk w x t' vs') : t = t' := by
  unfold Blk at h h'
  rw [h] at h'
  injection h' with h'
  injection h' with _ h' _
/-- The tree's blocks and the document's are apart. -/
theorem apart {w : World} {g a : Nat} {T : Option (Nat × B)} {M es : List E} {K N : Value} (h : TreeS w g T M) (h' : RO w a K N es) : ∀ x ∈ fpR a K N, x ∉ g :: fpO T := by
  intro x hx hy
  obtain ⟨t, vs, h1, h2⟩ := h.tag x hy
  obtain ⟨t', vs', h3, h4⟩ := h'.tag x hx
  have := blk_tag h1 h3
  subst this
  rcases h2 with rfl | rfl <;> rcases h4 with h4 | h4 | h4 <;> exact absurd h4 (by decide)
theorem rput_O {w : World} {a : Nat} {K N : Value} {es : List E} (key : ByteArray) (x old : Int) (is : Bool) (h : RO w a K N es) (hs : Srt (ksL es)) (hn : es.length < 50000) (hG : GetL es key old is) :
    Calls Try.prog 30 #[.pointer (some ⟨a, 0, none⟩), .string key, .int .i64 x] w fun e w' => e = .returned (.tuple #[.int .i64 old, .bool is]) ∧ Hid (RC w w' a K N (putL es key x is)) := by
  rcases hG with ⟨rfl, hG⟩ | ⟨rfl, hG, rfl⟩
  · exact rput_hit key x old h hs (by omega) hG
  · exact rput_miss key x h hs hn hG
theorem rdel_O {w : World} {a : Nat} {K N : Value} {es : List E} (key : ByteArray) (old : Int) (is : Bool) (h : RO w a K N es) (hs : Srt (ksL es)) (hn : es.length < 50000) (hG : GetL es key old is) :
    Calls Try.prog 32 #[.pointer (some ⟨a, 0, none⟩), .string key] w fun e w' => e = .returned (.tuple #[.int .i64 old, .bool is]) ∧ Hid (RC w w' a K N (delL es key is)) := by
  rcases hG with ⟨rfl, hG⟩ | ⟨rfl, hG, rfl⟩
  · exact rdel_hit key old h hs hn hG
  · refine (rdel_miss key h hs hn hG).mono ?_
    rintro e w' ⟨rfl, H⟩
    exact ⟨rfl, K, N, h.below H.out, Upd.of_below _ H.out, fun x hx => .inl hx⟩
/-- Both side by side, made by the call. -/
structure PI (w W : World) (g : Nat) (T : Option (Nat × B)) (M : List E) (a : Nat) (K N : Value) : Prop where
  ts : TreeS W g T M
  ro : RO W a K N M
  lo : ∀ x ∈ g :: fpO T, w.heap.size ≤ x
  hi : ∀ x ∈ fpR a K N, w.heap.size ≤ x
  bl : Below w.heap.size w W
  sz : ∀ e ∈ M, e.1.size ≤ 281474976710656
theorem PI.below {w W W' : World} {g a : Nat} {T : Option (Nat × B)} {M : List E} {K N : Value} (h : PI w W g T M a K N) (z : Below W.heap.size W W') : PI w W' g T M a K N :=
  ⟨h.ts.below0 z, h.ro.below z, h.lo, h.hi, h.bl.trans (z.mono h.bl.size), h.sz⟩
theorem PI.step {w W W1 W2 : World} {g a : Nat} {T T' : Option (Nat × B)} {M M' : List E} {K N : Value} (h : PI w W g T M a K N) (t : TreeS W1 g T' M') (hf : ∀ y ∈ fpO T', y ∈ fpO T ∨ W.heap.size ≤ y) (u : Upd (g :: fpO T) W W1) (r : RC W1 W2 a K N M') (hsz : ∀ e ∈ M', e.1.size ≤ 281474976710656) : ∃ K' N', PI w W2 g T' M' a K' N' := by
  obtain ⟨K', N', r1, r2, r3⟩ := r
  have hro1 : RO W1 a K N M := h.ro.upd u (apart h.ts h.ro)
  have hap := apart t hro1
  have b1 : Below w.heap.size w W1 := Upd.below h.bl u (Nat.le_refl _) h.lo
  refine ⟨K', N', ⟨t.upd r2 (fun q => hap g q (by simp)) (fun x hx q => hap x q (by simp [hx])), r1, fun x hx => ?_, fun x hx => ?_, Upd.below b1 r2 (Nat.le_refl _) h.hi, hsz⟩⟩
  · rcases List.mem_cons.1 hx with rfl | hx
    · exact h.lo _ (by simp)
    · rcases hf x hx with q | q
      · exact h.lo x (by simp [q])
      · exact Nat.le_trans h.bl.size q
  · rcases r3 x hx with q | q
    · exact h.hi x q
    · exact Nat.le_trans b1.size q
theorem PI.ro1 {w W W1 : World} {g a : Nat} {T : Option (Nat × B)} {M : List E} {K N : Value} (h : PI w W g T M a K N) (u : Upd (g :: fpO T) W W1) : RO W1 a K N M := h.ro.upd u (apart h.ts h.ro)
theorem putL_sz {M : List E} {k : ByteArray} {old : Int} {is : Bool} (h : GetL M k old is) (x : Int) (hs : ∀ e ∈ M, e.1.size ≤ 281474976710656) (hk : k.size ≤ 281474976710656) : ∀ e ∈ putL M k x is, e.1.size ≤ 281474976710656 := fun e he => by
  rcases (putL_mem h x e.1).1 (List.mem_map.2 ⟨e, he, rfl⟩) with q | q
  · rw [q]; exact hk
  · obtain ⟨e', h1, h2⟩ := List.mem_map.1 q
    rw [← h2]; exact hs e' h1
theorem delL_sz {M : List E} {k : ByteArray} (is : Bool) (hs : ∀ e ∈ M, e.1.size ≤ 281474976710656) : ∀ e ∈ delL M k is, e.1.size ≤ 281474976710656 := fun e he => by
  cases is with
  | true => exact hs e (List.mem_of_mem_eraseIdx he)
  | false => exact hs e he
theorem delL_lenX {M : List E} {k : ByteArray} (is : Bool) : (delL M k is).length ≤ M.length := by
  cases is with
  | true => exact List.length_eraseIdx_le _ _
  | false => exact Nat.le_refl _
set_option maxRecDepth 8000 in
set_option maxHeartbeats 2000000 in
theorem does_any (w W : World) (g : Nat) (T : Option (Nat × B)) (M : List E) (a : Nat) (K N : Value) (h : PI w W g T M a K N) (hM : M.length < 40000) (s : Stp) (hk : s.key.size ≤ 140737488355328 ∧ s.to.size ≤ 140737488355328) :
    Calls Try.prog 15 #[.pointer (some ⟨g, 0, none⟩), .pointer (some ⟨a, 0, none⟩), .agg (stC s).toArray] W fun e w' => e = .returned (.bool true) ∧ Hid (∃ T' M' K' N', PI w w' g T' M' a K' N' ∧ M'.length ≤ M.length + 1) := by
  obtain ⟨k, n, key, to⟩ := s
  obtain ⟨hk1, hk2⟩ := hk
  obtain ⟨old, is, hG⟩ := getL_ex h.ts.srt key
  have HG : Hid (GetL M key old is) := hG
  have HP : Hid (PI w W g T M a K N) := h
  have HL : Hid (M.length < 40000) := hM
  have HK : Hid (key.size ≤ 281474976710656 ∧ to.size ≤ 281474976710656) := ⟨by simp only at hk1; omega, by simp only at hk2; omega⟩
  clear h hM hk1 hk2 hG
  go_enter Try.func15, Try.ntmps15
  go_wp2_with (refine al_box rfl 33 (.tmp 2) rfl (stC ⟨k, n, key, to⟩) rfl ?_)
  intro b w1 l1 B1 G1
  have HB : Hid (Blk w1 b 33 (stC ⟨k, n, key, to⟩)) := B1
  have hb1 : Below W.heap.size W w1 := below_none (Below.refl _ _) (Nat.le_refl _) G1
  have HP1 : Hid (PI w w1 g T M a K N) := HP.out.below hb1
  have q0 : w1.cell? ⟨b, 0, none⟩ = some (.int .i64 k) := B1.cell 0
  have q1 : w1.cell? ⟨b, 1, none⟩ = some (.int .i64 n) := B1.cell 1
  have q2 : w1.cell? ⟨b, 2, none⟩ = some (.string key) := B1.cell 2
  have q3 : w1.cell? ⟨b, 3, none⟩ = some (.string to) := B1.cell 3
  have HBN : Hid (b ∉ g :: fpO T ∧ b ∉ fpR a K N) := by
    have h1 := HP.out.ts.glt
    have h2 := HP.out.ts.flt
    have h3 := HP.out.ro.lt
    refine ⟨fun q => ?_, fun q => by have := h3 b q; omega⟩
    rcases List.mem_cons.1 q with q | q
    · omega
    · have := h2 b q; omega
  clear B1 G1 hb1 HP l1
  have hcase : k = 1 ∨ (¬ k = 1 ∧ k = 2) ∨ (¬ k = 1 ∧ ¬ k = 2 ∧ k = 3) ∨ (¬ k = 1 ∧ ¬ k = 2 ∧ ¬ k = 3 ∧ k = 5) ∨ (¬ k = 1 ∧ ¬ k = 2 ∧ ¬ k = 3 ∧ ¬ k = 5) := by omega
  rcases hcase with rfl | ⟨h1, rfl⟩ | ⟨h1, h2, rfl⟩ | ⟨h1, h2, h3, rfl⟩ | ⟨h1, h2, h3, h4⟩
  · have K1 := put_M w1 g T M key HK.out.1 n old is HG.out HP1.out.ts (by have := HL.out; omega)
    go_wp2_with fail
    refine K1.mono ?_
    clear K1
    rintro e w2 ⟨rfl, H⟩
    obtain ⟨T', t1, t2, t3⟩ := H.out
    have HB2 : Hid (Blk w2 b 33 (stC ⟨1, n, key, to⟩)) := HB.out.upd t3 HBN.out.1
    have q1 : w2.cell? ⟨b, 1, none⟩ = some (.int .i64 n) := HB2.out.cell 1
    have q2 : w2.cell? ⟨b, 2, none⟩ = some (.string key) := HB2.out.cell 2
    have K1 := rput_O key n old is (HP1.out.ro1 t3) HP1.out.ts.srt (by have := HL.out; omega) HG.out
    have HT : Hid (TreeS w2 g T' (putL M key n is) ∧ (∀ y ∈ fpO T', y ∈ fpO T ∨ w1.heap.size ≤ y) ∧ Upd (g :: fpO T) w1 w2) := ⟨t1, t2, t3⟩
    clear t1 t2 t3 H HB HB2
    go_wp2_with fail
    refine K1.mono ?_
    clear K1
    rintro e w3 ⟨rfl, H⟩
    have HF : Hid (∃ T' M' K' N', PI w w3 g T' M' a K' N' ∧ M'.length ≤ M.length + 1) := by
      obtain ⟨t1, t2, t3⟩ := HT.out
      obtain ⟨K', N', hp⟩ := HP1.out.step t1 t2 t3 H.out (putL_sz HG.out n HP1.out.sz HK.out.1)
      exact ⟨T', _, K', N', hp, putL_len HG.out n⟩
    clear HT H HG HP1 HL HK HBN
    go_wp2
    go_ret
    exact ⟨by cases is <;> rfl, HF.out⟩
  · have K1 := get_M w1 g T M key old is HG.out HP1.out.ts
    go_wp2_with fail
    refine K1.mono ?_
    clear K1
    rintro e w2 ⟨rfl, H⟩
    have HP2 : Hid (PI w w2 g T M a K N) := HP1.out.below H.out
    have HB2 : Hid (Blk w2 b 33 (stC ⟨2, n, key, to⟩)) := HB.out.below H.out HB.out.lt
    have q2 : w2.cell? ⟨b, 2, none⟩ = some (.string key) := HB2.out.cell 2
    have K1 := rget_O key HP2.out.ro HP2.out.ts.srt (by have := HL.out; omega) old is HG.out
    clear H HB HB2 HP1
    go_wp2_with fail
    refine K1.mono ?_
    clear K1
    rintro e w3 ⟨rfl, H⟩
    have HF : Hid (∃ T' M' K' N', PI w w3 g T' M' a K' N' ∧ M'.length ≤ M.length + 1) := ⟨T, M, K, N, HP2.out.below H.out, by omega⟩
    clear H HG HP2 HL HK HBN
    go_wp2
    go_ret
    exact ⟨by cases is <;> rfl, HF.out⟩
  · have K1 := del_M w1 g T M key old is HG.out HP1.out.ts (by have := HL.out; omega)
    go_wp2_with fail
    refine K1.mono ?_
    clear K1
    rintro e w2 ⟨rfl, H⟩
    obtain ⟨T', t1, t2, t3⟩ := H.out
    have HB2 : Hid (Blk w2 b 33 (stC ⟨3, n, key, to⟩)) := HB.out.upd t3 HBN.out.1
    have q2 : w2.cell? ⟨b, 2, none⟩ = some (.string key) := HB2.out.cell 2
    have K1 := rdel_O key old is (HP1.out.ro1 t3) HP1.out.ts.srt (by have := HL.out; omega) HG.out
    have HT : Hid (TreeS w2 g T' (delL M key is) ∧ (∀ y ∈ fpO T', y ∈ fpO T ∨ w1.heap.size ≤ y) ∧ Upd (g :: fpO T) w1 w2) := ⟨t1, t2, t3⟩
    clear t1 t2 t3 H HB HB2
    go_wp2_with fail
    refine K1.mono ?_
    clear K1
    rintro e w3 ⟨rfl, H⟩
    have HF : Hid (∃ T' M' K' N', PI w w3 g T' M' a K' N' ∧ M'.length ≤ M.length + 1) := by
      obtain ⟨t1, t2, t3⟩ := HT.out
      obtain ⟨K', N', hp⟩ := HP1.out.step t1 t2 t3 H.out (delL_sz is HP1.out.sz)
      exact ⟨T', _, K', N', hp, Nat.le_succ_of_le (delL_lenX is)⟩
    clear HT H HG HP1 HL HK HBN
    go_wp2
    go_ret
    exact ⟨by cases is <;> rfl, HF.out⟩
  · have K1 := ranges_back w1 g T M a K N key to n HP1.out.ts HP1.out.ro (fun x hx => by have := apart HP1.out.ts HP1.out.ro x hx; simpa using this) HK.out.1 HK.out.2 HP1.out.sz (by have := HL.out; omega)
    clear HB HBN HG
    go_wp2_with fail
    refine K1.mono ?_
    clear K1
    rintro e w2 ⟨rfl, H⟩
    have HF : Hid (∃ T' M' K' N', PI w w2 g T' M' a K' N' ∧ M'.length ≤ M.length + 1) := ⟨T, M, K, N, HP1.out.below H.out, by omega⟩
    clear H HP1 HL HK
    go_wp2
    go_ret
    exact ⟨rfl, HF.out⟩
  · have K1 := ranges_up w1 g T M a K N key to n HP1.out.ts HP1.out.ro (fun x hx => by have := apart HP1.out.ts HP1.out.ro x hx; simpa using this) HK.out.1 HK.out.2 HP1.out.sz (by have := HL.out; omega)
    have hk5 : (k == 5) = false := by simpa using h4
    have hk6 : decide (k = 5) = false := by simpa using h4
    clear HB HBN HG
    go_wp2_with fail
    refine K1.mono ?_
    clear K1
    rintro e w2 ⟨rfl, H⟩
    have HF : Hid (∃ T' M' K' N', PI w w2 g T' M' a K' N' ∧ M'.length ≤ M.length + 1) := ⟨T, M, K, N, HP1.out.below H.out, by omega⟩
    clear H HP1 HL HK
    go_wp2
    go_ret
    exact ⟨rfl, HF.out⟩
#print axioms does_any
end Go.Proofs.Yteokjfpppmnebaa
