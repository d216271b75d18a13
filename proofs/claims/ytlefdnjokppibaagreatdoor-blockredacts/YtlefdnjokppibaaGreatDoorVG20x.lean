/-
  The contract of (*summer).end: the digest of the bytes that have come. · The contracts of digest.Sum and digest.Leaf. · The contracts of block's appendNumbers, headBytes, entryBytes. · The contracts of block's headBytes, entryBytes. · Regions that draw their order: what chapter 11's walks lean on.
-/
import Derived.Test.YtlefdnjokppibaaGreatDoorVG18x
import Derived.Test.YtlefdnjokppibaaGreatDoorVSRsum
import Derived.Test.YtlefdnjokppibaaGreatDoorVG14x
import Derived.Test.YtlefdnjokppibaaGreatDoorVG11x
namespace Go.Proofs.YtlefdnjokppibaaGreatDoor.Sh
open Go.RowKit Mt
set_option maxHeartbeats 1000000 in
set_option maxRecDepth 8000 in
theorem end_any (g : Nat) (L : List Nat) (w : World) (hS : Hid (Sm w g L)) (hn : L.length ≤ 200000) :
    Calls Tryz.prog 63 #[.pointer (some ⟨g, 0, none⟩)] w fun e w' => e = .returned (.agg (nums .u8 (D L)).toArray) ∧ w.grownBy w' (some g) := by
  have hgl := hS.out.lt
  go_enter Tryz.func63, Tryz.ntmps63
  go_wp2_with (refine al_zero rfl 23 rfl _ z25 ?_)
  intro g1 w1 l1 B1 G1
  have HS1 : Hid (Sm w1 g L) := hS.out.kept G1 (by simp)
  have n1 : g1 ≠ g := by omega
  have c72 : w1.cell? ⟨g, 72, none⟩ = some (.int .u64 (L.length : Int)) := by
    obtain ⟨bl, h1, _, _, h4⟩ := HS1.out
    exact smc_72 h4 h1
  go_wp2_with fail
  refine (ending_any L.length (by omega) _).mono ?_; rintro e w2 ⟨gp, cp, rfl, hgp, hcp, hcell, Z2⟩
  have HS2 : Hid (Sm w2 g L) := HS1.out.below Z2 HS1.out.lt
  have B1 := B1.below Z2 B1.lt
  have G2 : Hid (w.grownBy w2 (some g)) := ⟨Z2.os.trans G1.os, Z2.tape.trans G1.tape, Z2.output.trans G1.output, Nat.le_trans G1.size Z2.size, fun k hk hne => (Z2.block k (Nat.lt_of_lt_of_le hk G1.size)).trans (G1.block k hk (by simp))⟩
  have HC : Hid (Calls Tryz.prog 62 #[.pointer (some ⟨g, 0, none⟩), .slice (some ⟨gp, 0, none⟩) (pad L.length).length cp] w2 fun e w' => e = .returned (.tuple #[]) ∧ Sm w' g (L ++ pad L.length) ∧ w2.grownBy w' (some g)) :=
    add_any g L (pad L.length) _ cp w2 HS2.out (.inr ⟨gp, 0, by have := HS1.out.lt; omega, rfl, hcell⟩) hcp (pad_oct _) (by have := pad_len_le L.length; omega)
  have hl1 : w.heap.size ≤ g1 := l1
  clear hcell Z2 G1 HS1 HS2 c72 hS
  go_wp2_with fail
  refine HC.out.mono ?_; rintro e w3 ⟨rfl, HS3, G3⟩
  have B1 := B1.kept G3 (fun e => n1 (Option.some.inj e))
  have G3 : Hid (w.grownBy w3 (some g)) := G2.out.trans G3
  obtain ⟨S, hSS⟩ : ∃ S, Hid (S = blk (L ++ pad L.length) ((L ++ pad L.length).length / 64)) := ⟨_, rfl⟩
  have HDD : Hid (D L = outs S 32) := by
    show _ = _
    unfold D outs
    rw [hSS.out]; simp
  have hok : Hid S.ok := by rw [hSS.out]; exact blk_ok _ _
  have HR : Hid (∀ i, i < 8 → w3.cell? ⟨g, i, none⟩ = some (.int .u32 ((S.l.getD i 0 : Nat) : Int))) := by
    obtain ⟨bl, h1, _, _, h4⟩ := HS3
    intro i hi
    rw [h4.cell, ← hSS.out]
    unfold smc
    rw [List.getElem?_append_left (by rw [nums_length, l_len]; exact hi), nums_get _ _ _ (by rw [l_len]; exact hi)]
  have hgl3 : g < w3.heap.size := Nat.lt_of_lt_of_le hgl G3.out.size
  clear HS3 HC G2 hSS
  go_wp2_with (refine al_zero rfl 23 rfl _ z25 ?_)
  intro g2 w4 l2 B2 G4
  have n12 : g1 ≠ g2 := by have := B1.lt; omega
  have ng2 : g ≠ g2 := by omega
  have B1 := B1.kept G4 (by simp)
  have HR : Hid (∀ i, i < 8 → w4.cell? ⟨g, i, none⟩ = some (.int .u32 ((S.l.getD i 0 : Nat) : Int))) := fun i hi => G4.cell (HR.out i hi) (by simp)
  have hg2 : w.heap.size ≤ g2 := Nat.le_trans G3.out.size l2
  have G4 : Hid (w.grownBy w4 (some g)) := G3.out.andThen G4 (by simp)
  have B2 : Blk w4 g2 23 (nums .u8 (outs S 0)) := B2
  clear G3
  go_wp2
  go_loopw [12] (fun i wr => ∃ k : Nat, k ≤ 32 ∧ i = .int .i64 (k : Int) ∧ Blk wr g2 23 (nums .u8 (outs S k)) ∧ Blk wr g1 23 (nums .u8 (List.replicate 32 0)) ∧ Hid (∀ i, i < 8 → wr.cell? ⟨g, i, none⟩ = some (.int .u32 ((S.l.getD i 0 : Nat) : Int))) ∧ w.grownBy wr (some g)) (fun i _ => 32 - (intOf i).toNat)
  case atStart => exact ⟨0, by omega, rfl, B2, B1, HR, G4.out⟩
  case round =>
    clear HR B1 B2 G4
    obtain ⟨k, hk, rfl, B4, B1, HR, ZZ⟩ := hrel
    by_cases h32 : k < 32
    · have hc4 := HR.out (k / 4) (by omega)
      have hv := l_lt hok.out (k / 4)
      have HO : Hid (out S k = S.l.getD (k / 4) 0 / 2 ^ (24 - 8 * (k % 4)) % 256) := rfl
      have HS' : Hid _ := outs_set S k h32
      have hcn := B4.num k (by rw [outs_len _ _ hk]; exact h32)
      have hcf := B4.frozen k
      generalize (outs S k).getD k 0 = old at hcn
      generalize hvv : S.l.getD (k / 4) 0 = v at hc4 hv HO
      clear hvv
      have e4 : ((k : Int) / 4).toNat = k / 4 := by omega
      have e5 : (24 - 8 * ((k : Int) % 4)).toNat = 24 - 8 * (k % 4) := by omega
      obtain ⟨y, hy, HY⟩ : ∃ y : Nat, (v : Int) / 2 ^ (24 - 8 * (k % 4)) % 256 = (y : Int) ∧ Hid (y = v / 2 ^ (24 - 8 * (k % 4)) % 256) := ⟨_, by simp, rfl⟩
      go_wp2
      go_roundw
      case rel =>
        refine ⟨k + 1, by omega, by go_num, ?_, B1.setOther (fun e => n12 e.symm) _, fun i hi => ?_, ZZ.andThen (grown_setCell _ _ _) (fun j e => by obtain rfl := Option.some.inj e; exact .inl hg2)⟩
        · rw [← HS'.out, HO.out, ← HY.out]
          exact B4.setNum _ _
        · rw [World.cell?_setCell_other _ _ _ _ (by simp)]; exact HR.out i hi
      case measure => simp [intOf]; omega
    · obtain rfl : k = 32 := by omega
      rw [← HDD.out] at B4
      have ID : Hid ((Tryz.prog.info? 23).map (·.size) = some (nums .u8 (D L)).length) := by show _ = _; rw [nums_length, D_len]; exact s25
      have ND : Hid ((nums .u8 (D L)).length = (nums .u8 (List.replicate 32 0)).length) := by show _ = _; rw [nums_length, nums_length, D_len, List.length_replicate]
      clear HDD hok HR
      go_wp2_with (first | (refine ld_all rfl 23 (.tmp 3) rfl g2 23 (nums .u8 (D L)) 32 5 rfl B4 Tryz.underlying23 ID.out ?_) | (refine st_all rfl 23 (.tmp 2) (.tmp 31) rfl g1 23 (nums .u8 (List.replicate 32 0)) (nums .u8 (D L)) rfl rfl B1 ND.out ID.out (nums_one _ _) ?_))
      intro we BE GE
      go_wp2
      (try simp only [Exit.inBlock, Exit.then])
      refine bodyPost_ret (res_row rfl _ g1 23 _ _ rfl BE Tryz.underlying23 rfl ID.out) rfl ⟨rfl, ZZ.andThen GE (fun j e => by obtain rfl := Option.some.inj e; exact .inl hl1)⟩
end Go.Proofs.YtlefdnjokppibaaGreatDoor.Sh
namespace Go.Proofs.YtlefdnjokppibaaGreatDoor.Sh
open Go.RowKit Mt
theorem sm_of {w : World} {g : Nat} {bl L : List Nat} (h : Smok bl L) (B : Blk w g 102 (smc (blk L (L.length / 64)) bl L.length)) : Sm w g L := ⟨bl, h.1, h.2.1, h.2.2, B⟩
theorem begin_c (L : List Nat) (a0 : Option Addr) (cap : Nat) (w : World) (hsrc : Byt w a0 L) (hcap : L.length ≤ cap) (ho : Oct L) (hn : L.length ≤ 100000) :
    Calls Tryz.prog 61 #[.slice a0 L.length cap] w fun e w' => ∃ c, Hid ((∀ (W : World) g, Blk W g 102 c → Sm W g L) ∧ c.length = 73 ∧ ∀ v ∈ c, v.oneCell' = true) ∧ e = .returned (.agg c.toArray) ∧ Below w.heap.size w w' :=
  (begin_any L a0 cap w hsrc hcap ho hn).mono fun _ _ ⟨_, hk, he, hz⟩ => ⟨_, ⟨fun _ _ B => sm_of hk B, smc_len _ _ _ hk.1, smc_one _ _ _⟩, he, hz⟩
theorem byt_src {w w' : World} {a0 : Option Addr} {l : List Nat} {g : Nat} (h : Byt w a0 l) (z : Below w.heap.size w w') (hg : w.heap.size ≤ g) : l = [] ∨ ∃ pb off, pb ≠ g ∧ a0 = some ⟨pb, off, none⟩ ∧ Cells w' pb off l := by
  by_cases hl : l = []
  · exact .inl hl
  rcases h with h' | ⟨b, off, rfl, h'⟩
  · exact absurd h' hl
  · have hb : b < w.heap.size := cell_lt (h' 0 (List.length_pos_iff.2 hl))
    exact .inr ⟨b, off, by omega, rfl, h'.below z⟩
theorem grown_below {B : Nat} {w w' w'' : World} {g : Nat} (z : Below B w w') (h : w'.grownBy w'' (some g)) (hB : B ≤ w'.heap.size) (hg : B ≤ g) : Below B w w'' := z.grown h hB (fun r e => by obtain rfl := Option.some.inj e; exact hg)
set_option maxHeartbeats 1000000 in
set_option maxRecDepth 8000 in
theorem sum_any (a0 : Option Addr) (cap : Nat) (l : List Nat) (hn : l.length ≤ 100000) (w : World) (hc : Hid (Byt w a0 l)) (hcap : l.length ≤ cap) (ho : Hid (Oct l)) :
    Calls Tryz.prog 33 #[.slice a0 l.length cap] w fun e w' => e = .returned (.agg (nums .u8 (D l)).toArray) ∧ Below w.heap.size w w' := by
  go_enter Tryz.func33, Tryz.ntmps33
  go_wp2_with (refine al_zero rfl 23 rfl _ z25 ?_)
  intro g1 w1 l1 B1 G1
  have Z := (Below.refl w.heap.size w).grown G1 (Nat.le_refl _) (by simp)
  clear G1
  go_wp2_with fail
  refine (begin_c [] none 0 _ (.inl rfl) (Nat.le_refl _) (fun x hx => by cases hx) (by simp)).mono ?_; rintro e w2 ⟨c, HK, rfl, Z2⟩
  have B1 := B1.below Z2 B1.lt
  have Z := Z.trans (Z2.mono Z.size)
  clear Z2
  go_wp2_with (refine al_zero rfl 102 rfl _ z45' ?_)
  intro g2 w3 l2 B2 G2
  have n12 : g1 ≠ g2 := by have := B1.lt; omega
  have hg2 : w.heap.size ≤ g2 := Nat.le_trans Z.size l2
  have B1 := B1.kept G2 (by simp)
  have Z := Z.grown G2 Z.size (by simp)
  have I1 : Hid ((Tryz.prog.info? 102).map (·.size) = some c.length) := by show _ = _; rw [HK.out.2.1]; exact s45
  have N1 : Hid (c.length = (smc ⟨0, 0, 0, 0, 0, 0, 0, 0⟩ (List.replicate 64 0) 0).length) := by show _ = _; rw [HK.out.2.1, smc_len _ _ _ (by simp)]
  clear G2
  go_wp2_with (refine st_all rfl 102 (.tmp 3) (.tmp 4) rfl g2 102 _ c rfl rfl B2 N1.out I1.out HK.out.2.2 ?_)
  intro w4 B2 G3
  have B1 := B1.kept G3 (fun e => n12 (Option.some.inj e))
  have Z := grown_below Z G3 Z.size hg2
  have HS : Hid (Sm w4 g2 []) := HK.out.1 _ _ B2
  have HA : Hid (Calls Tryz.prog 62 #[.pointer (some ⟨g2, 0, none⟩), .slice a0 l.length cap] w4 fun e w' => e = .returned (.tuple #[]) ∧ Sm w' g2 l ∧ w4.grownBy w' (some g2)) := by
    have := add_any g2 [] l a0 cap w4 HS.out (byt_src hc.out Z hg2) hcap ho.out (by simp; omega)
    rw [List.nil_append] at this; exact this
  clear B2 G3 I1 N1 HS HK hc ho
  go_wp2_with fail
  refine HA.out.mono ?_; rintro e w5 ⟨rfl, hs, G5⟩
  have HS : Hid _ := hs
  have B1 := B1.kept G5 (fun e => n12 (Option.some.inj e))
  have Z := grown_below Z G5 Z.size hg2
  clear hs G5 HA
  go_wp2_with fail
  refine (end_any g2 l _ HS.out (by omega)).mono ?_; rintro e w6 ⟨rfl, G6⟩
  have B1 := B1.kept G6 (fun e => n12 (Option.some.inj e))
  have Z := grown_below Z G6 Z.size hg2
  have ID : Hid ((Tryz.prog.info? 23).map (·.size) = some (nums .u8 (D l)).length) := by show _ = _; rw [nums_length, D_len]; exact s25
  have ND : Hid ((nums .u8 (D l)).length = (nums .u8 (List.replicate 32 0)).length) := by show _ = _; rw [nums_length, nums_length, D_len, List.length_replicate]
  clear G6 HS
  go_wp2_with (refine st_all rfl 23 (.tmp 2) (.tmp 7) rfl g1 23 (nums .u8 (List.replicate 32 0)) (nums .u8 (D l)) rfl rfl B1 ND.out ID.out (nums_one _ _) ?_)
  intro we BE GE
  go_wp2
  (try simp only [Exit.inBlock, Exit.then])
  refine bodyPost_ret (res_row rfl _ g1 23 _ _ rfl BE Tryz.underlying23 rfl ID.out) rfl ⟨rfl, grown_below Z GE Z.size l1⟩
end Go.Proofs.YtlefdnjokppibaaGreatDoor.Sh
namespace Go.Proofs.YtlefdnjokppibaaGreatDoor.Sh
open Go.RowKit Math Mt
set_option linter.unusedVariables false
set_option linter.unusedSimpArgs false
/-- Numbers in memory. -/
def IntsM (w : World) (g : Nat) (ns : List Int) : Prop := ∀ i n, ns[i]? = some n → w.cell? ⟨g, i, none⟩ = some (.int .i64 n)
theorem flat_take (ns : List Int) (k : Nat) (n : Int) (h : ns[k]? = some n) : (ns.take (k + 1)).flatMap uvI = (ns.take k).flatMap uvI ++ uvI n := by
  obtain ⟨h1, h2⟩ := List.getElem?_eq_some_iff.1 h
  rw [List.take_succ_eq_append_getElem h1, List.flatMap_append, h2]
  simp
theorem flat_uv (ns : List Int) (h : ∀ n ∈ ns, I64 n) : (ns.flatMap uvI).length ≤ 10 * ns.length := by
  induction ns with
  | nil => simp
  | cons x r ih =>
    have a := uvI_len (n := x) (by have := (h x (by simp)).2; omega)
    have b := ih fun n hn => h n (by simp [hn])
    simp only [List.flatMap_cons, List.length_append, List.length_cons]
    omega
set_option maxHeartbeats 1000000 in
set_option maxRecDepth 8000 in
theorem apn_any (v : Value) (l : List Nat) (ns : List Int) (hns : ∀ n ∈ ns, I64 n) (hlen : ns.length ≤ 10) (g c : Nat) (B : Nat) (W : World) (ho : Own W B v l) (hB : B ≤ W.heap.size) (hl : l.length ≤ 800000000) (hg : IntsM W g ns) (hne : v.ownBlock ≠ some g) (hgl : g < W.heap.size) :
    Calls Tryz.prog 64 #[v, .slice (some ⟨g, 0, none⟩) ns.length c] W fun e w' => ∃ v', e = .returned v' ∧ Ap B W w' v v' (l ++ ns.flatMap uvI) := by
  have HA0 : Hid (Ap B W W v v (l ++ (ns.take 0).flatMap uvI)) := by
    show Ap B W W v v (l ++ (ns.take 0).flatMap uvI)
    rw [List.take_zero, List.flatMap_nil, List.append_nil]
    exact Ap.refl ho
  have HG : Hid (IntsM W g ns) := hg
  have HNS : Hid (∀ n ∈ ns, I64 n) := hns
  have HNE : Hid (v.ownBlock ≠ some g) := hne
  have hfl : ∀ k, ((ns.take k).flatMap uvI).length ≤ 100 := fun k => by
    have a := flat_uv (ns.take k) fun n hn => hns n (List.mem_of_mem_take hn)
    have b : (ns.take k).length ≤ 10 := by rw [List.length_take]; omega
    omega
  have HFL : Hid (∀ k, ((ns.take k).flatMap uvI).length ≤ 100) := hfl
  clear ho hg hns hne hfl
  go_enter Tryz.func64, Tryz.ntmps64
  go_wp2
  go_loopw [0, 6, 9] (fun vb _ i wr => ∃ k : Nat, k ≤ ns.length ∧ i = .int .i64 (k : Int) ∧ Hid (Ap B W wr v vb (l ++ (ns.take k).flatMap uvI))) (fun _ _ i _ => ns.length - (intOf i).toNat)
  case atStart => exact ⟨0, by omega, rfl, HA0.out⟩
  case round =>
    clear HA0
    obtain ⟨k, hk, rfl, HK⟩ := hrel
    by_cases hlt : k < ns.length
    case neg =>
      have HF : Hid (Ap B W wr v u0 (l ++ ns.flatMap uvI)) := by
        have := HK.out
        rw [List.take_of_length_le (by omega)] at this
        exact this
      go_wp2
      go_ret
      exact ⟨_, rfl, HF.out⟩
    obtain ⟨n, hn⟩ : ∃ n, ns[k]? = some n := ⟨_, List.getElem?_eq_getElem hlt⟩
    obtain ⟨hn0, hn1⟩ := HNS.out n (List.mem_of_getElem? hn)
    obtain ⟨u, hu⟩ : ∃ u : Nat, Hid (u = n.toNat) := ⟨_, rfl⟩
    have hm : max n 0 = (u : Int) := by rw [hu.out]; omega
    have hu1 : u < 9223372036854775808 := by rw [hu.out]; omega
    have cg : wr.cell? ⟨g, k, none⟩ = some (.int .i64 n) := (cell_keep (HK.out.gr.block g hgl (fun e => HNE.out e.symm))).trans (HG.out k n hn)
    have hs := HK.out.gr.size
    have HX : Hid ((ns.take (k + 1)).flatMap uvI = (ns.take k).flatMap uvI ++ uv u) := by rw [hu.out]; exact flat_take ns k n hn
    have hlk : ((ns.take k).flatMap uvI).length ≤ 100 := HFL.out k
    have h10 := uv_ten u (by omega)
    have KU : ∀ W (z : Int), z = (u : Int) → Calls Tryz.prog 57 #[.int .u64 z] W fun e w' => ∃ r, e = .returned r ∧ Own w' W.heap.size r (uv u) ∧ Below W.heap.size W w' := fun W z hz => by rw [hz]; exact uv_any u (by omega) W
    clear hu hn
    go_wp2_with fail
    all_goals
      refine (KU _ _ (by omega)).mono ?_
      rintro e w1 ⟨r, rfl, o1, b1⟩
      obtain ⟨ax, cx, rfl, hby, hnil, _⟩ := o1.byt
      have hs1 := b1.size
      have HB : Hid (Below wr.heap.size wr w1) := b1
      have HY : Hid (Byt w1 ax (uv u)) := hby
      clear o1 b1 KU hby
      go_wp2_with (at_builtin; go_must (refine ap_bytes rfl (.tmp 13) (.tmp 17) rfl B u0 (l ++ (ns.take k).flatMap uvI) rfl (HK.out.own.below HB.out) ax _ cx (uv u) rfl rfl HY.out hnil (by rw [List.length_append]; omega) (by omega) ?_))
      intro v2 w2 A2
      have HA : Hid (Ap B W w2 v v2 (l ++ (ns.take (k + 1)).flatMap uvI)) := by
        have := HK.out.trans (Ap.after HB.out A2)
        show Ap B W w2 v v2 (l ++ (ns.take (k + 1)).flatMap uvI)
        rw [HX.out]
        exact this
      clear A2 HB HY HX HK hm cg
      go_wp2
      go_roundw
      case rel => exact ⟨k + 1, by omega, by go_num, HA.out⟩
      case measure => simp [intOf]; omega
end Go.Proofs.YtlefdnjokppibaaGreatDoor.Sh
namespace Go.Proofs.YtlefdnjokppibaaGreatDoor.Sh
open Go.RowKit Math Mt
set_option linter.unusedVariables false
set_option linter.unusedSimpArgs false
theorem cells_range {w : World} {b o : Nat} {l : List Nat} (h : w.rangeAt b o (nums .u8 l)) : Cells w b o l := fun i hi => h i _ (nums_get .u8 l i hi)
theorem own_lit1 (w : World) (x base : Nat) (hb : base ≤ w.heap.size) : Own (w.alloc (.cells #[.int .u8 (x : Int)] 5)) base (.slice (some ⟨w.heap.size, 0, none⟩) 1 1) [x] := World.ownsRow_lit w #[.int .u8 (x : Int)] 1 hb (by decide) rfl
theorem ints_new (w : World) (ns : List Int) : IntsM (w.alloc (.cells (ns.map fun n => Value.int .i64 n).toArray 3)) w.heap.size ns := fun i n h => by
  rw [World.cell?_alloc_new, List.getElem?_toArray, List.getElem?_map, h]; rfl
/-- appendNumbers with numbers that were just put side by side. -/
theorem apn_new (v : Value) (l : List Nat) (ns : List Int) (hns : ∀ n ∈ ns, I64 n) (hlen : ns.length ≤ 10) (B : Nat) (W : World) (ho : Own W B v l) (hB : B ≤ W.heap.size) (hl : l.length ≤ 800000000) :
    Calls Tryz.prog 64 #[v, .slice (some ⟨W.heap.size, 0, none⟩) ns.length ns.length] (W.alloc (.cells (ns.map fun n => Value.int .i64 n).toArray 3)) fun e w' => ∃ v', e = .returned v' ∧ Ap B W w' v v' (l ++ ns.flatMap uvI) :=
  (apn_any v l ns hns hlen W.heap.size ns.length B _ (ho.alloc _) (by simp; omega) hl (ints_new W ns) ho.ne (by simp)).mono fun e w' ⟨v', h1, h2⟩ => ⟨v', h1, Ap.after ((Below.refl _ _).alloc (Nat.le_refl _) _) h2⟩
set_option maxHeartbeats 1000000 in
set_option maxRecDepth 8000 in
theorem hed_any (b : Bk) (hb : BkW b) (a : Option Addr) (c : Nat) (w : World) :
    Calls Tryz.prog 34 #[.agg (bC b a c).toArray] w fun e w' => ∃ v', e = .returned v' ∧ Own w' w.heap.size v' (hedB b) ∧ Below w.heap.size w w' := by
  have HL : Hid (b.pv.length = 32) := hb.pv.1
  have HB : Hid (BkW b) := hb
  obtain ⟨la, hla⟩ : ∃ la : List Nat, Hid (([] : List Nat) ++ [b.ix, b.tm, b.tx].flatMap uvI = la) := ⟨_, rfl⟩
  have HX : Hid (la ++ b.pv = hedB b) := by show _ = _; rw [← hla.out]; simp [hedB]
  have HN : Hid (∀ n ∈ [b.ix, b.tm, b.tx], I64 n) := fun n hn => by
    simp only [List.mem_cons, List.not_mem_nil, or_false] at hn
    rcases hn with rfl | rfl | rfl
    · exact hb.ix
    · exact hb.tm
    · exact hb.tx
  have hfl : Hid (la.length ≤ 30) := by show _ ≤ _; rw [← hla.out, List.nil_append]; exact flat_uv _ HN.out
  clear hb
  go_enter Tryz.func34, Tryz.ntmps34
  go_wp2_with (refine al_box rfl 26 (.tmp 0) rfl (bC b a c) rfl ?_)
  intro gb w1 l1 BB G0
  have Z := (Below.refl w.heap.size w).grown G0 (Nat.le_refl _) (by simp)
  have z1 := Z.size
  clear G0
  obtain ⟨c0, c1, c2, hp, _⟩ := bkF_of HL.out BB
  have KA : Calls Tryz.prog 64 #[.slice none 0 0, .slice (some ⟨w1.heap.size, 0, none⟩) 3 3] (w1.alloc (.cells #[.int .i64 b.ix, .int .i64 b.tm, .int .i64 b.tx] 3)) _ := apn_new (.slice none 0 0) [] [b.ix, b.tm, b.tx] HN.out (by simp) w.heap.size w1 (World.ownsRow_nil _ _ _ _) z1 (by simp)
  rw [hla.out] at KA
  clear hp
  go_wp2_with fail
  refine KA.mono ?_
  rintro e w2 ⟨v2, rfl, A2⟩
  have BB2 : Blk w2 gb 26 (bC b a c) := A2.blk BB (fun e => by cases e)
  have HA : Hid (Ap w.heap.size w1 w2 (.slice none 0 0) v2 la) := A2
  have Z2 : Hid (Below w.heap.size w w2) := A2.below (show Own w1 w.heap.size (.slice none 0 0) [] from World.ownsRow_nil _ _ _ _) Z z1 (Nat.le_refl _)
  have z2 := Z2.out.size
  have HY : Hid (Byt w2 (some ⟨gb, 3, none⟩) b.pv) := .inr ⟨gb, 3, rfl, cells_range (bkF_of HL.out BB2).pv⟩
  clear KA A2 c0 c1 c2 BB
  go_wp2_with (at_builtin; go_must (refine ap_bytes rfl (.tmp 12) (.tmp 14) rfl w.heap.size v2 _ rfl HA.out.own (some ⟨gb, 3, none⟩) 32 32 b.pv HL.out.symm rfl HY.out (by intro h; cases h) (by have := hfl.out; have := HL.out; omega) z2 ?_))
  intro v3 w3 A3
  have HF : Hid (Own w3 w.heap.size v3 (hedB b) ∧ Below w.heap.size w w3) := ⟨by rw [← HX.out]; exact A3.own, A3.below HA.out.own Z2.out z2 (Nat.le_refl _)⟩
  clear A3 HA HY
  go_wp2
  go_ret
  exact ⟨v3, rfl, HF.out⟩
set_option maxHeartbeats 2000000 in
set_option maxRecDepth 8000 in
theorem ent_any (e : En) (he : EnW e) (hn : Num e) (na : Option Addr) (nc : Nat) (ka : Option Addr) (kc : Nat) (w : World) :
    Calls Tryz.prog 68 #[.agg (eC e na nc ka kc).toArray] w fun e' w' => ∃ v', e' = .returned v' ∧ Own w' w.heap.size v' (entB e) ∧ Below w.heap.size w w' := by
  have HL : Hid (e.h.length = 32) := he.h.1
  obtain ⟨kn, hkn⟩ : ∃ kn : Nat, e.k = (kn : Int) := ⟨e.k.toNat, by have := hn.k; omega⟩
  have hk8 : kn ≤ 7 := by have := hn.k; omega
  have ht := hn.t
  obtain ⟨la, hla⟩ : ∃ la, Hid ([kn] ++ [e.tb, e.dc, e.vr, (e.t.size : Int)].flatMap uvI = la) := ⟨_, rfl⟩
  obtain ⟨lb, hlb⟩ : ∃ lb, Hid (la ++ bts e.t = lb) := ⟨_, rfl⟩
  obtain ⟨lc, hlc⟩ : ∃ lc, Hid (lb ++ [e.ab, e.ae].flatMap uvI = lc) := ⟨_, rfl⟩
  have HX : Hid ((lc = entB e ∧ kn ≠ 2) ∨ (lc ++ e.h = entB e ∧ kn = 2)) := by
    rw [← hlc.out, ← hlb.out, ← hla.out]
    have e1 : e.k.toNat = kn := by omega
    have e2 : uvI (e.t.size : Int) = uv e.t.size := rfl
    by_cases h2 : kn = 2
    · right
      refine ⟨?_, h2⟩
      unfold entB
      rw [if_pos (by omega), e1]
      simp [e2]
    · left
      refine ⟨?_, h2⟩
      unfold entB
      rw [if_neg (by omega), e1]
      simp [e2]
  have HN : Hid (∀ n ∈ [e.tb, e.dc, e.vr, (e.t.size : Int)], I64 n) := fun n h => by
    simp only [List.mem_cons, List.not_mem_nil, or_false] at h
    rcases h with rfl | rfl | rfl | rfl
    · exact he.tb
    · exact he.dc
    · exact he.vr
    · exact ⟨by omega, by omega⟩
  have HM : Hid (∀ n ∈ [e.ab, e.ae], I64 n) := fun n h => by
    simp only [List.mem_cons, List.not_mem_nil, or_false] at h
    rcases h with rfl | rfl
    · exact he.ab
    · exact he.ae
  have hf1 : Hid (la.length ≤ 41) := by
    have := flat_uv _ HN.out
    show _ ≤ _
    rw [← hla.out, List.length_append, List.length_singleton]
    simp only [List.length_cons, List.length_nil] at this
    omega
  have hf2 : Hid (lb.length ≤ 41 + e.t.size) := by show _ ≤ _; rw [← hlb.out, List.length_append, bts_len]; have := hf1.out; omega
  have hf3 : Hid (lc.length ≤ 61 + e.t.size) := by
    have := flat_uv _ HM.out
    have := hf2.out
    show _ ≤ _
    rw [← hlc.out, List.length_append]
    simp only [List.length_cons, List.length_nil] at *
    omega
  clear he hn
  go_enter Tryz.func68, Tryz.ntmps68
  go_wp2_with (refine al_box rfl 45 (.tmp 0) rfl (eC e na nc ka kc) rfl ?_)
  intro ge w1 l1 BE G0
  have Z := (Below.refl w.heap.size w).grown G0 (Nat.le_refl _) (by simp)
  have z1 := Z.size
  clear G0
  obtain ⟨ck, ct, ctb, cdc, cvr, _, _, _, _, _⟩ := enF_of HL.out BE.all
  rw [hkn] at ck
  rw [Nat.zero_add] at ct ctb cdc cvr
  have oL := own_lit1 w1 kn w.heap.size z1
  obtain ⟨W1, HW1⟩ : ∃ W1, Hid (w1.alloc (.cells #[.int .u8 (kn : Int)] 5) = W1) := ⟨_, rfl⟩
  have hz1 : W1.heap.size = w1.heap.size + 1 := by rw [← HW1.out]; simp
  have ZW : Hid (Below w.heap.size w W1) := by rw [← HW1.out]; exact Z.alloc z1 _
  have BW : Hid (Blk W1 ge 45 (eC e na nc ka kc)) := by rw [← HW1.out]; exact BE.alloc _
  have hgw : ge < w1.heap.size := BE.lt
  rw [HW1.out] at oL
  have KA := apn_new _ [kn] [e.tb, e.dc, e.vr, (e.t.size : Int)] HN.out (by simp) w.heap.size W1 oL (by omega) (by simp)
  rw [hz1] at KA
  replace KA : Calls Tryz.prog 64 #[.slice (some ⟨w1.heap.size, 0, none⟩) 1 1, .slice (some ⟨w1.heap.size + 1, 0, none⟩) 4 4] (W1.alloc (.cells #[.int .i64 e.tb, .int .i64 e.dc, .int .i64 e.vr, .int .i64 (e.t.size : Int)] 3)) _ := KA
  have HO1 : Hid (Own W1 w.heap.size (.slice (some ⟨w1.heap.size, 0, none⟩) 1 1) [kn]) := oL
  rw [← HW1.out, hla.out] at KA
  clear oL
  go_wp2_with fail
  refine KA.mono ?_
  rintro e' w2 ⟨v2, rfl, A2⟩
  rw [HW1.out] at A2
  have BE2 : Blk w2 ge 45 (eC e na nc ka kc) := A2.blk BW.out (fun h => by simp only [Value.ownBlock, Option.some.injEq] at h; omega)
  have HO2 : Hid (Own w2 w.heap.size v2 la) := A2.own
  have Z2 : Hid (Below w.heap.size w w2) := A2.below HO1.out ZW.out (by omega) (Nat.le_refl _)
  have hv2 : Hid (v2.ownBlock ≠ some ge) := fun h => by
    rcases A2.ob ge h with h | h
    · simp only [Value.ownBlock, Option.some.injEq] at h; omega
    · omega
  have z2 := Z2.out.size
  have ct2 : w2.cell? ⟨ge, 1, none⟩ = some (.string e.t) := by have := (enF_of HL.out BE2.all).t; rw [Nat.zero_add] at this; exact this
  clear A2 KA ck ct ctb cdc cvr BE HW1 BW ZW HO1
  go_wp2_with (at_builtin; go_must (refine ap_str rfl (.tmp 19) (.tmp 21) rfl w.heap.size v2 _ rfl HO2.out e.t rfl (by have := hf1.out; omega) z2 ?_))
  intro v3 w3 A3
  rw [hlb.out] at A3
  have BE3 : Blk w3 ge 45 (eC e na nc ka kc) := A3.blk BE2 hv2.out
  have HO3 : Hid (Own w3 w.heap.size v3 lb) := A3.own
  have Z3 : Hid (Below w.heap.size w w3) := A3.below HO2.out Z2.out z2 (Nat.le_refl _)
  have hg2 : ge < w2.heap.size := BE2.lt
  have hv3 : Hid (v3.ownBlock ≠ some ge) := fun h => by
    rcases A3.ob ge h with h | h
    · exact hv2.out h
    · omega
  have z3 := Z3.out.size
  have ca : w3.cell? ⟨ge, 44, none⟩ = some (.int .i64 e.ab) := by have := (enF_of HL.out BE3.all).ab; rw [Nat.zero_add] at this; exact this
  have cb : w3.cell? ⟨ge, 45, none⟩ = some (.int .i64 e.ae) := by have := (enF_of HL.out BE3.all).ae; rw [Nat.zero_add] at this; exact this
  have KB : Calls Tryz.prog 64 #[v3, .slice (some ⟨w3.heap.size, 0, none⟩) 2 2] (w3.alloc (.cells #[.int .i64 e.ab, .int .i64 e.ae] 3)) _ := apn_new v3 _ [e.ab, e.ae] HM.out (by simp) w.heap.size w3 HO3.out z3 (by have := hf2.out; omega)
  rw [hlc.out] at KB
  clear A3 ct2 BE2 HO2 hv2
  go_wp2_with fail
  refine KB.mono ?_
  rintro e' w4 ⟨v4, rfl, A4⟩
  have BE4 : Blk w4 ge 45 (eC e na nc ka kc) := A4.blk BE3 hv3.out
  have HO4 : Hid (Own w4 w.heap.size v4 lc) := A4.own
  have Z4 : Hid (Below w.heap.size w w4) := A4.below HO3.out Z3.out z3 (Nat.le_refl _)
  have z4 := Z4.out.size
  have ck4 : w4.cell? ⟨ge, 0, none⟩ = some (.int .i64 (kn : Int)) := by have := (enF_of HL.out BE4.all).k; rw [hkn] at this; exact this
  have HY : Hid (Byt w4 (some ⟨ge, 11, none⟩) e.h) := .inr ⟨ge, 11, rfl, cells_range (by have := (enF_of HL.out BE4.all).h; rw [Nat.zero_add] at this; exact this)⟩
  clear A4 KB ca cb BE3 HO3 hv3 BE4
  by_cases h2 : kn = 2
  · have hx : Hid (lc ++ e.h = entB e) := by
      rcases HX.out with h | h
      · exact absurd h2 h.2
      · exact h.1
    have hb2 : ((kn : Int) == 2) = true := by rw [h2]; rfl
    clear HX h2 hkn
    go_wp2_with (at_builtin; go_must (refine ap_bytes rfl (.tmp 35) (.tmp 37) rfl w.heap.size v4 _ rfl HO4.out (some ⟨ge, 11, none⟩) 32 32 e.h HL.out.symm rfl HY.out (by intro h; cases h) (by have := hf3.out; have := HL.out; omega) z4 ?_))
    intro v5 w5 A5
    have HF : Hid (Own w5 w.heap.size v5 (entB e) ∧ Below w.heap.size w w5) := ⟨by rw [← hx.out]; exact A5.own, A5.below HO4.out Z4.out z4 (Nat.le_refl _)⟩
    clear A5 HO4 HY
    go_wp2
    go_ret
    exact ⟨v5, rfl, HF.out⟩
  · have HF : Hid (Own w4 w.heap.size v4 (entB e) ∧ Below w.heap.size w w4) := ⟨by
      rcases HX.out with h | h
      · rw [← h.1]; exact HO4.out
      · exact absurd h.2 h2, Z4.out⟩
    have hb2 : ((kn : Int) == 2) = false := beq_eq_false_iff_ne.2 (by omega)
    clear HX h2 hkn HO4 HY
    go_wp2
    go_ret
    exact ⟨v4, rfl, HF.out⟩
end Go.Proofs.YtlefdnjokppibaaGreatDoor.Sh
namespace Go.Proofs.YtlefdnjokppibaaGreatDoor.Sh
open Go Go.RowKit
set_option linter.unusedVariables false
section
variable {C : World → Prop} {z : Nat} {Q : Exit → Act → World → Prop}
def firstL (ops : Array Oper) (z : Nat) (listed : Array Bool) (i : Nat) : Bool := lastOn ops z i && ((Region.ready .any ops listed).contains i && Region.free .any ops listed i)
/-- A length may be taken first. -/
theorem len_first {L : List Oper} {i : Nat} {o : Oper} {n : Nat} {listed : Array Bool} {a : Act} {w : World} (N : Nat) (hn : n = N + 1) (hsel : Region.noSelect L.toArray = true) (hQ : ∀ c (a : Act) (d : Option Tmp) v w, Q (.panic c) (a.put d v) w → Q (.panic c) a w) (hC : C w) (hB : firstL L.toArray z listed i = true) (hi : nth L i = some o) (hw : Region.wanted o (yielded L.toArray a.tmps) = true)
    (x : Operand) (t : TypeId) (ho : o.op = .call { callee := .builtin .len, args := #[x], argTypes := #[t] }) (e : TypeId) (ht : Tryz.prog.underlying t = some (.slice e)) (ad : Option Addr) (k cap : Nat) (hx : a.eval x = .slice ad k cap)
    (h : anyC Tryz.prog L.toArray C z Q N (listed.setIfInBounds i true) (a.put o.dst (.int .i64 (k : Int))) w) : anyC Tryz.prog L.toArray C z Q n listed a w := by
  subst hn
  unfold firstL at hB
  simp only [Bool.and_eq_true] at hB
  have hi' : L.toArray[i]? = some o := by rw [List.getElem?_toArray, ← nth_eq, hi]
  refine anyC_first (v := .int .i64 (k : Int)) hi' (lastOn_spec hB.1) hsel hQ N listed a w hC (Region.free_spec hi' hB.2.2) (by simpa using hB.2.1) (.inl ⟨hw, fun W _ => ?_⟩) h
  unfold execOp
  simp only [ho, resolve, invoke, builtin, Sem.run_bind, Sem.run_pure, Result.andThen_ok, List.map_toArray, List.map_cons, List.map_nil, hx]
  go_simp
end
section
variable {o : Oper} {a : Act} {w : World} {K : Act → World → Prop} {Q : Exit → Act → World → Prop}
theorem oper_b1 (n : Int) (ho : o.op = .buildSlice 70 1 #[(0, .const (.int .u8 n))]) (hK : K (a.put o.dst (.slice (some ⟨w.heap.size, 0, none⟩) 1 1)) (w.alloc (.cells #[.int .u8 n] 5))) : Oper.wp Tryz.prog o a w K Q := by
  unfold Oper.wp execOp
  simp only [ho]
  go_simp
  exact hK
theorem oper_i1 (t : Nat) (ho : o.op = .buildSlice 111 1 #[(0, .tmp t)]) (n : Int) (hx : a.tmps.getD t undef = .int .i64 n) (hK : K (a.put o.dst (.slice (some ⟨w.heap.size, 0, none⟩) 1 1)) (w.alloc (.cells #[.int .i64 n] 3))) : Oper.wp Tryz.prog o a w K Q := by
  have hx' : a.tmps[t]?.getD undef = .int .i64 n := by simpa using hx
  unfold Oper.wp execOp
  simp only [ho]
  go_simp
  exact hK
theorem oper_new {P : Program} (t : TypeId) (ho : o.op = .alloc t) (cs : List Value) (hz : (P.info? t).map (fun i => i.zero.map (·.cells)) = some (some cs.toArray))
    (hK : K (a.put o.dst (.pointer (some ⟨w.heap.size, 0, none⟩))) (w.alloc (.cells cs.toArray t))) : Oper.wp P o a w K Q := by
  unfold Oper.wp execOp
  cases hi : P.info? t with
  | none => simp [hi] at hz
  | some i =>
    cases hq : i.zero with
    | none => simp [hi, hq] at hz
    | some z =>
      have hc : z.cells = cs.toArray := by simpa [hi, hq] using hz
      have hzv : (zeroValue t).run P w = .ok z w := by simp [zeroValue, typeInfo, hi, hq]
      simp only [ho, Sem.run_bind, Instr.alloc, hzv, newVar, newRow, run_newObj_alloc, Sem.run_pure, Result.andThen_ok, hc]
      exact hK
theorem q_load {C : World → Prop} {K : Act → Prop} (ty : TypeId) (x : Operand) (ho : o.op = .load ty x) (b k : Nat) (hx : a.eval x = .pointer (some ⟨b, k, none⟩)) (cs : List Value) (d : TypeDesc) (hS : ∀ w, C w → w.rangeAt b k cs)
    (hu : Tryz.prog.underlying ty = some d) (hd : d.isRow = true) (hi : (Tryz.prog.info? ty).map (·.size) = some cs.length) (hk : K (a.put o.dst (.agg cs.toArray))) : o.quiet Tryz.prog a C K :=
  ⟨_, fun w hw => by
    unfold Oper.quietAt execOp
    simp only [ho, hx, Instr.loadAt, Instr.sureAddr, Sem.run_bind, Sem.run_pure, Result.andThen_ok, run_loadVar_mid w b k ty cs d (hS w hw) hu hd hi]
    exact ⟨rfl, rfl⟩, hk⟩
theorem q_cell {C : World → Prop} {K : Act → Prop} (T : TypeId) (hT : T = 3 ∨ T = 9 ∨ T = 24 ∨ T = 70 ∨ T = 4) (x : Operand) (ho : o.op = .load T x) (b k : Nat) (hx : a.eval x = .pointer (some ⟨b, k, none⟩)) (v : Value) (hS : ∀ w, C w → w.cell? ⟨b, k, none⟩ = some v)
    (hk : K (a.put o.dst v)) : o.quiet Tryz.prog a C K :=
  ⟨_, fun w hw => by
    have h := hS w hw
    unfold Oper.quietAt execOp
    rcases hT with rfl | rfl | rfl | rfl | rfl <;> simp only [ho, hx] <;> go_simp, hk⟩
end
end Go.Proofs.YtlefdnjokppibaaGreatDoor.Sh
