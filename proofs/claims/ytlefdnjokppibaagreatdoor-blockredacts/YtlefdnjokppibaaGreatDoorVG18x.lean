/-
  The contract of (*summer).add: a summer to which bytes have come. · The contract of digest.begin: a summer to which the first bytes have come.
-/
import Derived.Test.YtlefdnjokppibaaGreatDoorVSBlock
import Derived.Test.YtlefdnjokppibaaGreatDoorVG17x
namespace Go.Proofs.YtlefdnjokppibaaGreatDoor.Sh
open Go.RowKit Mt
/-- The bytes in the block, grown by more. -/
def lay (bl : List Nat) (r : Nat) (x : List Nat) : List Nat := bl.take r ++ (x ++ bl.drop (r + x.length))
theorem lay_len (bl : List Nat) (r : Nat) (x : List Nat) (h : r + x.length ≤ bl.length) : (lay bl r x).length = bl.length := by simp [lay]; omega
theorem lay_oct (bl : List Nat) (r : Nat) (x : List Nat) (h : Oct bl) (hx : Oct x) : Oct (lay bl r x) := by
  intro y hy
  simp only [lay, List.mem_append] at hy
  rcases hy with hy | hy | hy
  · exact h y (List.mem_of_mem_take hy)
  · exact hx y hy
  · exact h y (List.mem_of_mem_drop hy)
theorem lay_get (bl : List Nat) (r : Nat) (x : List Nat) (h : r + x.length ≤ bl.length) (i : Nat) (hi : i < r + x.length) : (lay bl r x).getD i 0 = if i < r then bl.getD i 0 else x.getD (i - r) 0 := by
  have hr : (bl.take r).length = r := by simp; omega
  unfold lay
  simp only [List.getD_eq_getElem?_getD]
  split
  · rw [List.getElem?_append_left (by omega), List.getElem?_take, if_pos (by assumption)]
  · rw [List.getElem?_append_right (by omega), hr, List.getElem?_append_left (by omega)]
theorem grow (M x bl : List Nat) (h64 : bl.length = 64) (hx : M.length % 64 + x.length ≤ 64) (hbl : ∀ i, i < M.length % 64 → bl.getD i 0 = M.getD (64 * (M.length / 64) + i) 0) (i : Nat) (hi : i < M.length % 64 + x.length) :
    (lay bl (M.length % 64) x).getD i 0 = (M ++ x).getD (64 * (M.length / 64) + i) 0 := by
  rw [lay_get _ _ _ (by omega) i hi]
  split
  · rw [hbl i (by assumption)]
    simp only [List.getD_eq_getElem?_getD]
    rw [List.getElem?_append_left (by omega)]
  · simp only [List.getD_eq_getElem?_getD]
    rw [List.getElem?_append_right (by omega), show 64 * (M.length / 64) + i - M.length = i - M.length % 64 by omega]
theorem blk_app (M x : List Nat) (j : Nat) (h : 64 * j ≤ M.length) : blk (M ++ x) j = blk M j :=
  blk_congr j fun i hi => by simp only [List.getD_eq_getElem?_getD]; rw [List.getElem?_append_left (by omega)]
theorem grow_full (M x bl : List Nat) (h64 : bl.length = 64) (hx : M.length % 64 + x.length = 64) (hbl : ∀ i, i < M.length % 64 → bl.getD i 0 = M.getD (64 * (M.length / 64) + i) 0) :
    comp (blk M (M.length / 64)) (fun i => (lay bl (M.length % 64) x).getD i 0) = blk (M ++ x) ((M ++ x).length / 64) := by
  have e : (M ++ x).length / 64 = M.length / 64 + 1 := by simp; omega
  rw [e, blk, blk_app M x _ (by omega)]
  exact comp_congr _ fun i hi => grow M x bl h64 (by omega) hbl i (by omega)

/-- The cells of a summer. -/
def smc (s : St) (bl : List Nat) (c : Nat) : List Value := nums .u32 s.l ++ (nums .u8 bl ++ [.int .u64 (c : Int)])
/-- A summer to which the bytes L have come. -/
def Sm (w : World) (g : Nat) (L : List Nat) : Prop :=
  ∃ bl, bl.length = 64 ∧ Oct bl ∧ (∀ i, i < L.length % 64 → bl.getD i 0 = L.getD (64 * (L.length / 64) + i) 0) ∧ Blk w g 102 (smc (blk L (L.length / 64)) bl L.length)
theorem smc_cut (s : St) (bl : List Nat) (c r n : Nat) :
    smc s bl c = (nums .u32 s.l ++ nums .u8 (bl.take r)) ++ (nums .u8 ((bl.drop r).take n) ++ (nums .u8 (bl.drop (r + n)) ++ [.int .u64 (c : Int)])) := by
  unfold smc
  rw [List.append_assoc, ← List.append_assoc (nums .u8 ((bl.drop r).take n)), ← nums_append, ← List.append_assoc (nums .u8 (bl.take r)), ← nums_append]
  congr 3
  rw [← List.drop_drop, List.take_append_drop, List.take_append_drop]
theorem smc_lay (s : St) (bl : List Nat) (c r : Nat) (x : List Nat) :
    (nums .u32 s.l ++ nums .u8 (bl.take r)) ++ (nums .u8 x ++ (nums .u8 (bl.drop (r + x.length)) ++ [.int .u64 (c : Int)])) = smc s (lay bl r x) c := by
  unfold smc lay
  rw [nums_append, nums_append]; simp
theorem smc_end (s : St) (bl : List Nat) (c : Nat) : smc s bl c = (nums .u32 s.l ++ nums .u8 bl) ++ .int .u64 (c : Int) :: [] := by
  unfold smc; simp
theorem smc_72 {w : World} {g : Nat} {s : St} {bl : List Nat} {c : Nat} (h : Blk w g 102 (smc s bl c)) (h64 : bl.length = 64) : w.cell? ⟨g, 72, none⟩ = some (.int .u64 (c : Int)) := by
  rw [h.cell, smc_end, List.getElem?_append_right (by simp [nums_length, l_len, h64])]
  simp [nums_length, l_len, h64]
theorem sm_part {w : World} {g : Nat} (M x bl : List Nat) (h64 : bl.length = 64) (hob : Oct bl) (hxo : Oct x) (hx : M.length % 64 + x.length < 64) (hbl : ∀ i, i < M.length % 64 → bl.getD i 0 = M.getD (64 * (M.length / 64) + i) 0)
    (B : Blk w g 102 (smc (blk M (M.length / 64)) (lay bl (M.length % 64) x) (M.length + x.length))) : Sm w g (M ++ x) := by
  have e1 : (M ++ x).length / 64 = M.length / 64 := by simp; omega
  have e2 : (M ++ x).length % 64 = M.length % 64 + x.length := by simp; omega
  refine ⟨lay bl (M.length % 64) x, by rw [lay_len _ _ _ (by omega)]; exact h64, lay_oct _ _ _ hob hxo, fun i hi => ?_, ?_⟩
  · rw [e1]; exact grow M x bl h64 (by omega) hbl i (by omega)
  · rw [e1, blk_app M x _ (by omega), List.length_append]; exact B
theorem sm_full {w : World} {g : Nat} (M x bl : List Nat) (h64 : bl.length = 64) (hob : Oct bl) (hxo : Oct x) (hx : M.length % 64 + x.length = 64)
    (B : Blk w g 102 (smc (blk (M ++ x) ((M ++ x).length / 64)) (lay bl (M.length % 64) x) (M.length + x.length))) : Sm w g (M ++ x) := by
  have e2 : (M ++ x).length % 64 = 0 := by simp; omega
  refine ⟨lay bl (M.length % 64) x, by rw [lay_len _ _ _ (by omega)]; exact h64, lay_oct _ _ _ hob hxo, fun i hi => by omega, ?_⟩
  rw [List.length_append] at B ⊢; exact B
theorem below_grown {w w' : World} (h : Below w.heap.size w w') (row : Option Nat) : w.grownBy w' row := ⟨h.os, h.tape, h.output, h.size, fun k hk _ => h.block k hk⟩
theorem grown_drew (w : World) (row : Option Nat) : w.grownBy w.drew row := ⟨rfl, rfl, rfl, Nat.le_refl _, fun _ _ _ => rfl⟩
theorem smc_st {w : World} {g : Nat} {s : St} {bl : List Nat} {c : Nat} (h : Blk w g 102 (smc s bl c)) (T : St) : Blk (w.setCells g 0 (nums .u32 T.l)) g 102 (smc T bl c) :=
  Blk.setCells (nums .u8 bl ++ [.int .u64 (c : Int)]) (nums .u32 T.l) (nums .u32 s.l) [] w (by rw [nums_length, nums_length, l_len, l_len]) h
theorem s43 : (Tryz.prog.info? 86).map (·.size) = some 1 := by kernel_rfl
theorem Sm.kept {w w' : World} {g : Nat} {L : List Nat} {row : Option Nat} (h : Sm w g L) (hg : w.grownBy w' row) (hne : some g ≠ row) : Sm w' g L := by
  obtain ⟨bl, h1, h2, h3, h4⟩ := h
  exact ⟨bl, h1, h2, h3, h4.kept hg hne⟩
theorem Sm.below {w w' : World} {g B : Nat} {L : List Nat} (h : Sm w g L) (hb : Below B w w') (hg : g < B) : Sm w' g L := by
  obtain ⟨bl, h1, h2, h3, h4⟩ := h
  exact ⟨bl, h1, h2, h3, h4.below hb hg⟩
theorem Sm.lt {w : World} {g : Nat} {L : List Nat} (h : Sm w g L) : g < w.heap.size := by
  obtain ⟨bl, h1, h2, h3, h4⟩ := h
  exact h4.lt

set_option maxHeartbeats 1500000 in
set_option maxRecDepth 8000 in
theorem add_any (g : Nat) (L l2 : List Nat) (a0 : Option Addr) (cap : Nat) (w : World) (hS : Sm w g L) (hsrc : l2 = [] ∨ ∃ pb off, pb ≠ g ∧ a0 = some ⟨pb, off, none⟩ ∧ Cells w pb off l2) (hcap : l2.length ≤ cap) (ho : Oct l2) (hn : L.length + l2.length ≤ 1000000) :
    Calls Tryz.prog 62 #[.pointer (some ⟨g, 0, none⟩), .slice a0 l2.length cap] w fun e w' => e = .returned (.tuple #[]) ∧ Sm w' g (L ++ l2) ∧ w.grownBy w' (some g) := by
  obtain ⟨pb, off, hpb, HA⟩ : ∃ pb off, pb ≠ g ∧ Hid (0 < l2.length → a0 = some ⟨pb, off, none⟩ ∧ Cells w pb off l2) := by
    rcases hsrc with rfl | ⟨pb, off, h1, h2, h3⟩
    · exact ⟨g + 1, 0, by omega, fun h => by simp at h⟩
    · exact ⟨pb, off, h1, fun _ => ⟨h2, h3⟩⟩
  clear hsrc
  have HO : Hid (Oct l2) := ho
  clear ho
  go_enter Tryz.func62, Tryz.ntmps62
  go_wp2
  go_loopw [1] (fun v wr => ∃ (k ck : Nat) (A : Option Addr), k ≤ l2.length ∧ v = .slice A (l2.length - k) ck ∧ (k < l2.length → A = some ⟨pb, off + k, none⟩) ∧ l2.length - k ≤ ck ∧ Sm wr g (L ++ l2.take k) ∧ w.grownBy wr (some g)) (fun v _ => slen v)
  case atStart => exact ⟨0, cap, a0, by omega, rfl, fun h => (HA.out h).1, hcap, by simpa using hS, World.grownBy.refl _ _⟩
  case round =>
    obtain ⟨k, ck, A, hk, rfl, hA, hck, hSk, hG⟩ := hrel
    by_cases hlt : k < l2.length
    · obtain rfl := hA hlt
      obtain ⟨bl, h64, hob, hbl, HB⟩ := hSk
      obtain ⟨M, hM⟩ : ∃ M, Hid (M = L ++ l2.take k) := ⟨_, rfl⟩
      rw [← hM.out] at hbl HB
      have hc : M.length = L.length + k := by rw [hM.out]; simp; omega
      obtain ⟨c, hcc⟩ : ∃ c, Hid (c = M.length) := ⟨_, rfl⟩
      obtain ⟨r, hr⟩ : ∃ r, Hid (r = c % 64) := ⟨_, rfl⟩
      obtain ⟨n, hn'⟩ : ∃ n, Hid (n = Nat.min (l2.length - k) (64 - r)) := ⟨_, rfl⟩
      obtain ⟨x, hx⟩ : ∃ x, Hid (x = (l2.drop k).take n) := ⟨_, rfl⟩
      have hr64 : r < 64 := by rw [hr.out]; omega
      have hnr : n ≤ 64 - r := by rw [hn'.out]; exact Nat.min_le_right _ _
      have hnl : n ≤ l2.length - k := by rw [hn'.out]; exact Nat.min_le_left _ _
      have hxl : Hid (x.length = n) := by show _ = _; rw [hx.out]; simp; omega
      have hcb : c ≤ 1000000 := by rw [hcc.out, hc]; omega
      have HB0 : Hid (Blk wr g 102 (smc (blk M (c / 64)) bl c)) := by rw [hcc.out]; exact HB
      have HBL : Hid (∀ i, i < r → bl.getD i 0 = M.getD (64 * (c / 64) + i) 0) := by rw [hr.out, hcc.out]; exact hbl
      have HN : Hid (M ++ x = L ++ l2.take (k + n)) := by
        show _ = _
        rw [hM.out, hx.out, List.append_assoc]
        congr 1
        rw [List.take_add]
      have HXO : Hid (Oct x) := by
        rw [hx.out]; intro y hy
        exact HO.out y (List.mem_of_mem_drop (List.mem_of_mem_take hy))
      have HSrc : Hid (∀ j v, (nums .u8 x)[j]? = some v → wr.cell? ((⟨pb, off + k, none⟩ : Addr).add j) = some v) := by
        intro j v hj
        have hjl : j < x.length := by have := (List.getElem?_eq_some_iff.1 hj).1; simpa [nums_length] using this
        rw [hxl.out] at hjl
        rw [nums_get .u8 x j (by rw [hxl.out]; exact hjl)] at hj
        have h1 := (HA.out (by omega)).2 (k + j) (by omega)
        have h2 := hG.cell h1 (fun e => hpb (Option.some.inj e))
        rw [Addr.add_mid, Nat.add_assoc, h2, ← hj, hx.out]
        congr 3
        rw [List.getD_eq_getElem?_getD, List.getD_eq_getElem?_getD, List.getElem?_take, if_pos hjl, List.getElem?_drop]
      have HCK : Hid (l2.length - k ≤ ck) := hck
      clear hbl HB hc hck
      obtain ⟨wd, hwd⟩ : ∃ wd, Hid (wd = wr.drew) := ⟨_, rfl⟩
      have BD : Hid (Blk wd g 102 (smc (blk M (c / 64)) bl c)) := HB0.out.drewTo hwd
      have c72 := smc_72 BD.out h64
      have hrm : (c : Int) % 64 = (r : Int) := by rw [hr.out]; omega
      have hrt : (c : Int).tmod 64 = (r : Int) := by rw [Int.tmod_eq_emod_of_nonneg (by omega)]; exact hrm
      have hlen : 0 < l2.length - k := by omega
      have hrz : (r : Int) ≤ 64 := by omega
      have hrn : ¬ (64 = r) := by omega
      go_wp2
      refine still_tail 10 (by kernel_rfl) (by kernel_rfl) wd hwd ?_
      simp only [List.take_succ_cons, List.take_zero, List.drop_succ_cons, List.drop_zero]
      repeat still_step
      refine wpStill_nil ?_
      refine cp_row rfl (.tmp 16) (.tmp 17) 70 70 rfl 5 Tryz.underlying70 s5 g (8 + r) (64 - r) (64 - r) ⟨pb, off + k, none⟩ (l2.length - k) ck rfl rfl 102 (nums .u32 (blk M (c / 64)).l ++ nums .u8 (bl.take r)) (nums .u8 ((bl.drop r).take n)) (nums .u8 (bl.drop (r + n)) ++ [.int .u64 (c : Int)]) (nums .u8 x)
        (by simp [nums_length, l_len, h64]; omega) (by rw [← smc_cut _ bl c r n]; exact BD.out) (by simp [nums_length, hxl.out, h64]; omega) (by rw [nums_length, hxl.out, hn'.out]) (fun j v hj => by rw [hwd.out]; exact HSrc.out j v hj) (nums_one _ _) ?_
      intro wz BZ Gz
      rw [nums_length, hxl.out]
      have BZ : Hid (Blk wz g 102 (smc (blk M (c / 64)) (lay bl r x) c)) := by rw [← smc_lay, hxl.out]; exact BZ
      have h64' : (lay bl r x).length = 64 := by rw [lay_len _ _ _ (by rw [hxl.out]; omega)]; exact h64
      have Gz : Hid (w.grownBy wz (some g)) := by
        have g0 : w.grownBy wd (some g) := by rw [hwd.out]; exact ⟨hG.os, hG.tape, hG.output, hG.size, hG.block⟩
        exact g0.trans Gz
      have c72 := smc_72 BZ.out h64'
      clear BD HB0 hwd hG hrm
      go_wp2_with (refine st_cell rfl 86 (.tmp 27) (.tmp 25) rfl g 72 102 .u64 (nums .u32 (blk M (c / 64)).l ++ nums .u8 (lay bl r x)) [] (.int .u64 (c : Int)) _ (c + n) rfl rfl (by omega) (by simp [nums_length, l_len, h64']) (by rw [← smc_end]; exact BZ.out) s43 ?_)
      intro wy BY Gy
      have BY : Hid (Blk wy g 102 (smc (blk M (c / 64)) (lay bl r x) (c + n))) := by rw [smc_end]; exact BY
      have Gy : Hid (w.grownBy wy (some g)) := Gz.out.trans Gy
      have c72 := smc_72 BY.out h64'
      clear BZ Gz
      have hn0 : 0 < n := by rw [hn'.out]; exact Nat.lt_min.2 ⟨by omega, by omega⟩
      have hsub : l2.length - k - n = l2.length - (k + n) := by omega
      by_cases hfull : (c + n) % 64 = 0
      · have hmz : ((c : Int) + (n : Int)) % 64 = 0 := by omega
        clear hfull
        obtain ⟨T, HT⟩ : ∃ T, Hid (T = comp (blk M (c / 64)) (fun i => (lay bl r x).getD i 0)) := ⟨_, rfl⟩
        have hxr : r + n = 64 := by have := hr.out; omega
        have HF : Hid (∀ W, Blk W g 102 (smc T (lay bl r x) (c + n)) → Sm W g (L ++ l2.take (k + n))) := by
          intro W BW
          rw [← HN.out]
          have e1 := hcc.out
          have e2 := hr.out
          subst e1
          subst e2
          refine sm_full M x bl h64 hob HXO.out (by rw [hxl.out]; exact hxr) ?_
          rw [← grow_full M x bl h64 (by rw [hxl.out]; exact hxr) HBL.out, ← HT.out, hxl.out]
          exact BW
        have HC : Hid (∀ W, Calls Tryz.prog 86 #[.agg (nums .u32 (blk M (c / 64)).l).toArray, .agg (nums .u8 (lay bl r x)).toArray] W fun e w' => e = .returned (.agg (nums .u32 T.l).toArray) ∧ Below W.heap.size W w') := by
          intro W
          rw [HT.out]
          exact stir_any (blk M (c / 64)) (blk_ok _ _) (lay bl r x) (fun i => (lay bl r x).getD i 0) h64' (fun i => rfl) (fun i => oct_get (lay_oct _ _ _ hob HXO.out) i) 48 rfl 64 rfl W
        have HW : Hid (∀ W, Below wy.drew.heap.size wy.drew W → Blk W g 102 (smc (blk M (c / 64)) (lay bl r x) (c + n)) ∧ w.grownBy W (some g)) := fun W z => ⟨(show Blk wy.drew g 102 _ from BY.out).below z BY.out.lt, (Gy.out.trans (grown_drew wy _)).trans (below_grown z _)⟩
        have BR0 : Hid (wy.drew.rangeAt g 0 (nums .u32 (blk M (c / 64)).l)) := Blk.range (p := []) (show Blk wy.drew g 102 _ from BY.out)
        have BR8 : Hid (wy.drew.rangeAt g 8 (nums .u8 (lay bl r x))) := Blk.range (p := nums .u32 (blk M (c / 64)).l) (show Blk wy.drew g 102 _ from BY.out)
        have I0 : Hid ((Tryz.prog.info? 99).map (·.size) = some (nums .u32 (blk M (c / 64)).l).length) := by show _ = _; rw [nums_length, l_len]; exact s41
        have I8 : Hid ((Tryz.prog.info? 100).map (·.size) = some (nums .u8 (lay bl r x)).length) := by show _ = _; rw [nums_length, h64']; exact s42
        generalize blk M (c / 64) = s0 at *
        generalize lay bl r x = b2 at *
        go_wp2_with (refine sl_from rfl 70 (.tmp 28) (.tmp 29) rfl 5 Tryz.underlying70 Tryz.sizeOf5 pb (off + k) (l2.length - k) ck n rfl rfl hnl HCK.out ?_)
        intro A' hA'
        have HA' : Hid (n < l2.length - k → A' = some ⟨pb, off + k + n, none⟩) := hA'
        clear hA'
        go_wp2
        have IT : Hid ((Tryz.prog.info? 99).map (·.size) = some (nums .u32 T.l).length) := by show _ = _; rw [nums_length, l_len]; exact s41
        have HTH : Hid (∀ W, Below wy.drew.heap.size wy.drew W → W.there g 0 (nums .u32 T.l).length) := fun W z => (HW.out W z).1.there 0 _ (by simp [smc, nums_length, l_len])
        clear c72 HXO HSrc HN HBL HA hrt hob hxl hx hn' hcb hnr hpb
        refine reg5 g (nums .u32 s0.l) (nums .u32 T.l) (nums .u8 b2) rfl rfl (fun _ _ _ _ _ h => h) (by kernel_rfl) BR0.out BR8.out I0.out I8.out (fun W => Below wy.drew.heap.size wy.drew W) (HC.out _) IT.out (nums_one _ _) HTH.out ?_
        intro w6 z6
        have HS6 : Hid (Sm (w6.setCells g 0 (nums .u32 T.l)) g (L ++ l2.take (k + n))) := HF.out _ (smc_st (HW.out w6 z6).1 T)
        have HG6 : Hid (w.grownBy (w6.setCells g 0 (nums .u32 T.l)) (some g)) := (HW.out w6 z6).2.trans (grown_setCells g (nums .u32 T.l) 0 w6)
        generalize w6.setCells g 0 (nums .u32 T.l) = wf at HS6 HG6
        clear z6 HTH IT HC HF HW BR0 BR8 I0 I8
        simp only [Act.put, List.setIfInBounds_toArray, List.set_cons_succ, List.set_cons_zero]
        go_wp2
        go_roundw
        case rel => exact ⟨k + n, ck - n, A', by omega, rfl, fun h => by rw [HA'.out (by omega), Nat.add_assoc], by have := HCK.out; omega, HS6.out, HG6.out⟩
        case measure => simp only [slen]; omega
      · have hmz : ¬ (((c : Int) + (n : Int)) % 64 = 0) := by omega
        have HSm : Hid (Sm wy g (L ++ l2.take (k + n))) := by
          show Sm _ _ _
          rw [← HN.out]
          have := hcc.out
          have := hr.out
          subst this
          subst this
          exact sm_part M x bl h64 hob HXO.out (by rw [hxl.out]; omega) HBL.out (by rw [hxl.out]; exact BY.out)
        clear hfull
        go_wp2_with (refine sl_from rfl 70 (.tmp 28) (.tmp 29) rfl 5 Tryz.underlying70 Tryz.sizeOf5 pb (off + k) (l2.length - k) ck n rfl rfl hnl HCK.out ?_)
        intro A' hA'
        have HA' : Hid (n < l2.length - k → A' = some ⟨pb, off + k + n, none⟩) := hA'
        clear hA'
        go_wp2
        go_roundw
        case rel => exact ⟨k + n, ck - n, A', by omega, rfl, fun h => by rw [HA'.out (by omega), Nat.add_assoc], by have := HCK.out; omega, HSm.out, Gy.out⟩
        case measure => simp only [slen]; omega
    · have e0 : l2.length - k = 0 := by omega
      obtain rfl : k = l2.length := by omega
      rw [List.take_length] at hSk
      have HSm : Hid (Sm wr g (L ++ l2)) := hSk
      clear hSk hA hck
      rw [Nat.sub_self]
      go_wp2
      go_end0
      exact ⟨rfl, HSm.out, hG⟩
end Go.Proofs.YtlefdnjokppibaaGreatDoor.Sh
namespace Go.Proofs.YtlefdnjokppibaaGreatDoor.Sh
open Go.RowKit Mt
def Smok (bl L : List Nat) : Prop := bl.length = 64 ∧ Oct bl ∧ ∀ i, i < L.length % 64 → bl.getD i 0 = L.getD (64 * (L.length / 64) + i) 0
theorem smc_len (s : St) (bl : List Nat) (c : Nat) (h : bl.length = 64) : (smc s bl c).length = 73 := by simp [smc, nums_length, l_len, h]
theorem smc_one (s : St) (bl : List Nat) (c : Nat) : ∀ v ∈ smc s bl c, v.oneCell' = true := by
  intro v hv
  unfold smc at hv
  rcases List.mem_append.1 hv with hv | hv
  · exact nums_one _ _ v hv
  rcases List.mem_append.1 hv with hv | hv
  · exact nums_one _ _ v hv
  · obtain rfl := List.mem_singleton.1 hv; rfl
theorem s_built (a : Act) (h : a.eval (.tmp 4) = .agg (nums .u32 init.l).toArray) : Tryz.prog.built 102 (#[(0, Operand.tmp 4)].map fun p => (p.1, a.eval p.2)).toList = some (smc init (List.replicate 64 0) 0).toArray := by
  simp only [List.map_toArray, List.map_cons, List.map_nil, h]
  kernel_rfl
theorem z45' : (Tryz.prog.info? 102).map (fun i => i.zero.map (·.cells)) = some (some (smc ⟨0, 0, 0, 0, 0, 0, 0, 0⟩ (List.replicate 64 0) 0).toArray) := by kernel_rfl
theorem sm_nil {w : World} {g : Nat} (h : Blk w g 102 (smc init (List.replicate 64 0) 0)) : Sm w g [] :=
  ⟨List.replicate 64 0, by simp, fun x hx => by obtain ⟨_, rfl⟩ := List.mem_replicate.1 hx; decide, fun i hi => by simp at hi, h⟩
set_option maxHeartbeats 1000000 in
set_option maxRecDepth 8000 in
theorem begin_any (L : List Nat) (a0 : Option Addr) (cap : Nat) (w : World) (hsrc : Hid (Byt w a0 L)) (hcap : L.length ≤ cap) (ho : Hid (Oct L)) (hn : L.length ≤ 100000) :
    Calls Tryz.prog 61 #[.slice a0 L.length cap] w fun e w' => ∃ bl, Smok bl L ∧ e = .returned (.agg (smc (blk L (L.length / 64)) bl L.length).toArray) ∧ Below w.heap.size w w' := by
  have N0 : Hid ((smc init (List.replicate 64 0) 0).length = (smc ⟨0, 0, 0, 0, 0, 0, 0, 0⟩ (List.replicate 64 0) 0).length) := by show _ = _; rw [smc_len _ _ _ (by simp), smc_len _ _ _ (by simp)]
  have I0 : Hid ((Tryz.prog.info? 102).map (·.size) = some (smc init (List.replicate 64 0) 0).length) := by show _ = _; rw [smc_len _ _ _ (by simp)]; exact s45
  go_enter Tryz.func61, Tryz.ntmps61
  go_wp2_with (refine al_zero rfl 102 rfl _ z45' ?_)
  intro g1 w1 l1 B1 G1
  go_wp2_with (first | (refine bd_row rfl 99 iParts rfl (nums .u32 Mt.init.l) (i_built _) ?_) | (refine bd_row rfl 102 #[(0, .tmp 4)] rfl (smc Mt.init (List.replicate 64 0) 0) (s_built _ rfl) ?_) | (refine al_zero rfl 102 rfl _ z45' ?_))
  intro g2 w2 l2 B2 G2
  have n12 : g1 ≠ g2 := by have := B1.lt; omega
  have B1 := B1.kept G2 (by simp)
  have Z := ((Below.refl w.heap.size w).grown G1 (Nat.le_refl _) (by simp)).grown G2 G1.size (by simp)
  have hg2 : w.heap.size ≤ g2 := Nat.le_trans G1.size l2
  clear G1 G2
  go_wp2_with (refine st_all rfl 102 (.tmp 3) (.tmp 5) rfl g2 102 _ (smc Mt.init (List.replicate 64 0) 0) rfl rfl B2 N0.out I0.out (smc_one _ _ _) ?_)
  intro w3 B3 G3
  have B1 := B1.kept G3 (fun e => n12 (Option.some.inj e))
  have Z := Z.grown G3 Z.size (fun r e => by obtain rfl := Option.some.inj e; exact hg2)
  have HC : Hid (Calls Tryz.prog 62 #[.pointer (some ⟨g2, 0, none⟩), .slice a0 L.length cap] w3 fun e w' => e = .returned (.tuple #[]) ∧ Sm w' g2 L ∧ w3.grownBy w' (some g2)) := by
    have := add_any g2 [] L a0 cap w3 (sm_nil B3) ?_ hcap ho.out (by simpa using Nat.le_trans hn (by decide))
    · rw [List.nil_append] at this; exact this
    · rcases hsrc.out.below Z with h | ⟨b, off, rfl, h⟩
      · exact .inl h
      · by_cases hl : L = []
        · exact .inl hl
        · refine .inr ⟨b, off, ?_, rfl, h⟩
          have hb : b < w.heap.size := by
            rcases hsrc.out with h' | ⟨b', off', e, h'⟩
            · exact absurd h' hl
            · cases e
              exact cell_lt (h' 0 (List.length_pos_iff.2 hl))
          omega
  clear B3 G3 N0 I0 hsrc ho
  go_wp2_with fail
  refine HC.out.mono ?_; rintro e w4 ⟨rfl, HS, G4⟩
  obtain ⟨bl, h64, hob, hbl, B4⟩ := HS
  have B1 := B1.kept G4 (fun e => n12 (Option.some.inj e))
  have Z := Z.grown G4 Z.size (fun r e => by obtain rfl := Option.some.inj e; exact hg2)
  have HK : Hid (Smok bl L) := ⟨h64, hob, hbl⟩
  obtain ⟨c, hc⟩ : ∃ c, c = smc (blk L (L.length / 64)) bl L.length := ⟨_, rfl⟩
  rw [← hc] at B4
  have HCC : Hid (c = smc (blk L (L.length / 64)) bl L.length) := hc
  have I1 : Hid ((Tryz.prog.info? 102).map (·.size) = some c.length) := by show _ = _; rw [hc, smc_len _ _ _ h64]; exact s45
  have N1 : Hid (c.length = (smc ⟨0, 0, 0, 0, 0, 0, 0, 0⟩ (List.replicate 64 0) 0).length) := by show _ = _; rw [hc, smc_len _ _ _ h64, smc_len _ _ _ (by simp)]
  have O1 : Hid (∀ v ∈ c, v.oneCell' = true) := by rw [hc]; exact smc_one _ _ _
  clear hc hbl HC G4
  go_wp2_with (first | (refine wpList_load_mid rfl 102 (.tmp 3) rfl g2 0 rfl c _ B4.all Tryz.underlying102 rfl I1.out ?_) | (refine st_all rfl 102 (.tmp 2) (.tmp 8) rfl g1 102 _ c rfl rfl B1 N1.out I1.out O1.out ?_))
  intro w5 B5 G5
  go_wp2
  (try simp only [Exit.inBlock, Exit.then])
  refine bodyPost_ret (res_row rfl _ g1 102 _ _ rfl B5 Tryz.underlying102 rfl I1.out) rfl ⟨bl, HK.out, by rw [HCC.out], Z.grown G5 Z.size (fun r e => by obtain rfl := Option.some.inj e; exact l1)⟩
end Go.Proofs.YtlefdnjokppibaaGreatDoor.Sh
