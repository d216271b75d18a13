/-
  The contracts of the document's own Scan, of rows, of spoil.
-/
import Derived.Test.YthgicnfhclfcjaaScan
import Derived.Deep.QuietTactic
import Derived.BigQuiet
namespace Go.Proofs.Ythgicnfhclfcjaa
open Go.RowKit Math
set_option linter.unusedVariables false
set_option maxRecDepth 8000 in
set_option maxHeartbeats 2000000 in
theorem scanr_any (a : Option Addr) (cap : Nat) (l : List Nat) (hn : l.length ≤ 1000000) (hlc : l.length ≤ cap) (hcm : cap ≤ 9223372036854775807) (w : World) (hc : Byt w a l) (hb : Oct l) :
    Calls Try.prog 18 #[.slice a l.length cap] w (ScanA l w) := by
  go_enter Try.func18, Try.ntmps18
  go_wp2
  go_loopw [5, 6] (fun v i wr => ∃ k : Nat, k ≤ l.length ∧ i = .int .i64 k ∧ Hid (Sc l w k v wr)) (fun _ i _ => l.length - (intOf i).toNat)
  case atStart => exact ⟨0, by omega, rfl, [], Nat.le_refl _, ownR_nil _ _, Below.refl _ _, by simp⟩
  case round =>
    obtain ⟨k, hk, rfl, HI⟩ := hrel
    by_cases hlt : k < l.length
    · rcases hc with rfl | ⟨b, off, rfl, hc⟩
      · simp at hlt
      obtain ⟨ls, hls, oR, bR, hsc⟩ := HI.out
      have HSc : Hid _ := hsc
      have HOR : Hid (OwnR wr w.heap.size u5 ls) := oR
      have HBR : Hid (Below w.heap.size w wr) := bR
      have HDec : Hid (∀ W, Cells W b off l → Calls Try.prog 16 #[.slice (some ⟨b, off + k, none⟩) (l.length - k) (cap - k)] W (DecA (l.drop k) W)) := fun W h => by
        have := decr_any (some ⟨b, off + k, none⟩) (cap - k) (l.drop k) (by simp; omega) (by simp; omega) (by omega) W (.inr ⟨b, off + k, rfl, h.drop k⟩) (oct_drop hb k)
        rw [List.length_drop] at this
        exact this
      have HC : Hid (Cells wr b off l) := hc.below bR
      have hlk : k ≤ l.length := hk
      have HOD : Hid (Oct (dec (l.drop k)).1) := dec_oct (oct_drop hb k)
      have HLD : Hid ((dec (l.drop k)).1.length ≤ 1000000) := by have := dec_len (l.drop k); rw [List.length_drop] at this; show _ ≤ _; omega
      clear hsc oR bR HI hc hb
      have hck : ¬ cap = k := by omega
      have hkc : (k : Int) ≤ (cap : Int) := by omega
      go_wp2_with fail
      refine (HDec.out wr HC.out).mono ?_
      rintro e w1 ⟨vp, rfl, o1, d1⟩
      clear HDec HC
      by_cases hz : (dec (l.drop k)).2.2 = 0
      · have hp := dec_pos hz
        rw [List.length_drop] at hp
        have HS2 : Hid (scan l = (ls ++ [(dec (l.drop k)).1] ++ (scan (l.drop (k + (dec (l.drop k)).2.1))).1, k + (dec (l.drop k)).2.1 + (scan (l.drop (k + (dec (l.drop k)).2.1))).2.1, (scan (l.drop (k + (dec (l.drop k)).2.1))).2.2)) := by
          show _ = _
          rw [HSc.out, scan_ok (by rw [List.length_drop]; omega) hz, List.drop_drop]
          simp [Nat.add_assoc]
        rw [hz]
        have oR := HOR.out.below d1
        have bR := HBR.out.trans (d1.mono HBR.out.size)
        have hfresh : ∀ g, u5.ownBlock = some g → g < wr.heap.size := fun g hg => (ownR_lt HOR.out hg).2
        obtain ⟨av, cv, rfl, _, _, _, _, hblk⟩ := o1.shape
        have hne : ∀ x, av = some x → u5.ownBlock ≠ some x.block := fun x hx he => by
          have h1 := hfresh _ he
          have h2 := (hblk x hx).1
          omega
        have oP := own_mono o1 HBR.out.size
        generalize dec (l.drop k) = D at *
        obtain ⟨p, n, er⟩ := D
        simp only at *
        have s1 := bR.size
        have HX : Hid (OwnR (w1.alloc (.cells #[.slice av p.length cv] 22)) w.heap.size u5 ls ∧ Own (w1.alloc (.cells #[.slice av p.length cv] 22)) w.heap.size (.slice av p.length cv) p ∧ Below w.heap.size w (w1.alloc (.cells #[.slice av p.length cv] 22))) :=
          ⟨oR.below ((Below.refl _ _).alloc (Nat.le_refl _) _), oP.alloc _, bR.alloc s1 _⟩
        have HNe : Hid (∀ x, av = some x → u5.ownBlock ≠ some x.block) := hne
        clear o1 d1 oR bR oP hfresh hblk hne HSc HOR HBR
        go_wp2_with (at_builtin; go_must (refine app_row rfl (.tmp 27) (.tmp 29) rfl w.heap.size u5 ls rfl HX.out.1 _ av cv p rfl (by simp [go_sem]) HX.out.2.1 HOD.out HLD.out HNe.out (by omega) (by simp; omega) ?_))
        intro v2 w2 o2 g2
        have HB2 : Hid (Below w.heap.size w w2) := HX.out.2.2.grown g2 HX.out.2.2.size (fun g hg => (ownR_lt HX.out.1 hg).1)
        have HO2 : Hid (OwnR w2 w.heap.size v2 (ls ++ [p])) := o2
        clear o2 g2 HX HNe
        go_wp2
        go_roundw
        case rel => exact ⟨k + n, by omega, by go_num, ls ++ [p], by simp; omega, HO2.out, HB2.out, HS2.out⟩
        case measure => simp [intOf]; omega
      · have HS2 : Hid (scan l = (ls, k, (dec (l.drop k)).2.2)) := by
          show _ = _
          rw [HSc.out, scan_err (by rw [List.length_drop]; omega) hz]
          simp
        have hd6 : (dec (l.drop k)).2.2 < 6 := by
          rcases dec_cases (l.drop k) with ⟨e, he, h2⟩ | ⟨n, _, _, he⟩
          · rw [he]; simp; omega
          · rw [he]; simp
        have HOR2 : Hid (OwnR w1 w.heap.size u5 ls) := HOR.out.below d1
        have HBR2 : Hid (Below w.heap.size w w1) := HBR.out.trans (d1.mono HBR.out.size)
        obtain ⟨av, cv, rfl, _, _, _, _, hblk⟩ := o1.shape
        generalize dec (l.drop k) = D at *
        obtain ⟨p, n, er⟩ := D
        simp only at *
        have hne : ((er : Int) != 0) = true := by simp; omega
        clear o1 d1 hblk HSc HOR HBR
        go_wp2
        go_ret3
        refine ⟨_, tris HS2.out _ rfl rfl, ?_, HBR2.out⟩
        rw [HS2.out]
        exact HOR2.out
    · obtain ⟨ls, hls, oR, bR, hsc⟩ := HI.out
      have HS2 : Hid (scan l = (ls, k, 0)) := by
        show _ = _
        rw [hsc, scan_nil (by rw [List.length_drop]; omega)]
        simp
      have HOR : Hid (OwnR wr w.heap.size u5 ls) := oR
      have HBR : Hid (Below w.heap.size w wr) := bR
      clear hsc oR bR HI hc hb
      go_wp2
      go_ret3
      refine ⟨_, tris HS2.out _ rfl rfl, ?_, HBR.out⟩
      rw [HS2.out]
      exact HOR.out
set_option maxHeartbeats 1000000 in
theorem rows_any (a1 a2 : Option Addr) (c1 c2 : Nat) (r1 r2 : List Rw) (hr : r1.map (·.2.2) = r2.map (·.2.2)) (hl : ∀ r ∈ r1, r.2.2.length ≤ 1000000) (n : Nat) (hn1 : r1.length = n) (hn : n ≤ 1000000) (w : World) (h1 : Rws w a1 r1) (h2 : Rws w a2 r2) :
    Calls Try.prog 19 #[.slice a1 n c1, .slice a2 n c2] w fun e w' => e = .returned (.bool true) ∧ ∃ q, w' = w.drewN q := by
  subst hn1
  have hlen : r2.length = r1.length := by have := congrArg List.length hr; simpa using this.symm
  go_enter Try.func19, Try.ntmps19
  go_wp2
  go_loopw [5] (fun i wr => ∃ k q : Nat, k ≤ r1.length ∧ i = .int .i64 k ∧ wr = w.drewN q) (fun i _ => r1.length - (intOf i).toNat)
  case atStart => exact ⟨0, 0, by omega, rfl, rfl⟩
  case round =>
    obtain ⟨k, q, hk, rfl, rfl⟩ := hrel
    by_cases hlt : k < r1.length
    · rcases h1 with rfl | ⟨b1, o1, rfl, h1⟩
      · simp at hlt
      rcases h2 with rfl | ⟨b2, o2, rfl, h2⟩
      · simp at hlen; omega
      obtain ⟨x1, y1, l1, e1⟩ : ∃ x y l, r1[k]? = some (x, y, l) := by
        rw [List.getElem?_eq_getElem hlt]; exact ⟨_, _, _, rfl⟩
      obtain ⟨x2, y2, l2, e2⟩ : ∃ x y l, r2[k]? = some (x, y, l) := by
        rw [List.getElem?_eq_getElem (by omega)]; exact ⟨_, _, _, rfl⟩
      have hll : l1 = l2 := by
        have := congrArg (fun z => z[k]?) hr
        simp only [List.getElem?_map, e1, e2, Option.map_some, Option.some.injEq] at this
        exact this
      subst hll
      have hc1 := h1 k _ e1
      have hc2 := h2 k _ e2
      have hl1 := hl _ (List.mem_of_getElem? e1)
      simp only at hc1 hc2 hl1
      have HS : Hid (∀ m, Calls Try.prog 12 #[.slice x1 l1.length y1, .slice x2 l1.length y2] ((w.drewN q).drewN m) fun e w' => e = .returned (.bool true) ∧ ∃ q', w' = ((w.drewN q).drewN m).drewN q') := fun m =>
        same_any x1 x2 y1 y2 l1 hl1 _ (by
          rcases hc1.2.byt with h | ⟨b, off, h, hh⟩
          · exact .inl h
          · exact .inr ⟨b, off, h, fun i hi => hh i hi⟩) (by
          rcases hc2.2.byt with h | ⟨b, off, h, hh⟩
          · exact .inl h
          · exact .inr ⟨b, off, h, fun i hi => hh i hi⟩) hc1.2.oct
      have k1 := hc1.1
      have k2 := hc2.1
      clear h1 h2 hc1 hc2 e1 e2 hr hl hl1
      generalize l1.length = L at *
      have k1' : (w.drewN q).cell? ⟨b1, o1 + k, none⟩ = some (.slice x1 L y1) := k1
      have k2' : (w.drewN q).cell? ⟨b2, o2 + k, none⟩ = some (.slice x2 L y2) := k2
      clear k1 k2
      have HQ : Hid (∀ m, ∃ q', (w.drewN q).drewN m = w.drewN q') := fun m => ⟨q + m, by rw [World.drewN_drewN]⟩
      generalize w.drewN q = W at *
      go_wp2
      go_quiet (exact Calls.quiet_of (HS.out _))
      go_wp2
      go_roundw
      case rel => obtain ⟨q', hq'⟩ := HQ.out _; exact ⟨k + 1, q', by omega, by go_num, hq'⟩
      case measure => simp [intOf]; omega
    · go_wp2
      go_ret
      exact ⟨rfl, q, rfl⟩
set_option maxHeartbeats 1000000 in
theorem spoil_any (v : Value) (l : List Nat) (base : Nat) (w : World) (h : Own w base v l) (hl : l.length ≤ 999999) (hbase : base ≤ w.heap.size) :
    Calls Try.prog 20 #[v] w fun e w' => e = .returned (.tuple #[]) ∧ Below base w w' := by
  have HO : Hid (Own (w.alloc (.cells #[.int .u8 99] 5)) base v l) := h.alloc _
  have HB : Hid (Below base w (w.alloc (.cells #[.int .u8 99] 5))) := (Below.refl _ _).alloc hbase _
  obtain ⟨a, c, rfl, _⟩ := h.shape
  clear h
  go_enter Try.func20, Try.ntmps20
  go_wp2_with (at_builtin; go_must (refine app_bytes rfl (.tmp 4) (.tmp 5) rfl base _ l rfl HO.out _ _ _ [99] rfl rfl (byt_lit w [99]) (by simp) (by simp; omega) (by simp; omega) ?_))
  intro v2 w2 o2 g2
  have b2 : Below base w w2 := below_app HB.out (by simp; omega) HO.out g2
  clear g2 HO HB
  obtain ⟨g, cap, rfl, hg, _, _, _, _⟩ := o2.form (by simp)
  have hlen : (l ++ [99]).length = l.length + 1 := by simp
  generalize l ++ [99] = m at *
  rw [hlen] at o2 ⊢
  have HI : Hid (Own w2 base (.slice (some ⟨g, 0, none⟩) (l.length + 1) cap) m ∧ Below base w w2 ∧ m.length = l.length + 1) := ⟨o2, b2, hlen⟩
  clear o2 b2 hlen
  go_wp2
  go_loopw [3] (fun i wr => ∃ k : Nat, k ≤ l.length + 1 ∧ i = .int .i64 k ∧ ∃ m, Hid (Own wr base (.slice (some ⟨g, 0, none⟩) (l.length + 1) cap) m ∧ Below base w wr ∧ m.length = l.length + 1)) (fun i _ => l.length + 1 - (intOf i).toNat)
  case atStart => exact ⟨0, by omega, rfl, m, HI.out⟩
  case round =>
    obtain ⟨k, hk, rfl, m, HJ⟩ := hrel
    clear HI
    by_cases hlt : k < l.length + 1
    · obtain ⟨o3, b3, h3⟩ := HJ.out
      have hfr : wr.frozen? ⟨g, k, none⟩ = false := World.ownsRow.frozenAt (by unfold Own at o3; rw [h3] at o3; exact o3) k
      have hce := own_cells o3 (by omega) k (by omega)
      rw [Nat.zero_add] at hce
      generalize m.getD k 0 = x at hce
      have o4 := own_put h3 o3 k 98
      have b4 := b3.setCell (p := ⟨g, k, none⟩) hg (.int .u8 98)
      have HK : Hid (Own (wr.setCell ⟨g, k, none⟩ (.int .u8 98)) base (.slice (some ⟨g, 0, none⟩) (l.length + 1) cap) (m.set k 98) ∧ Below base w (wr.setCell ⟨g, k, none⟩ (.int .u8 98)) ∧ (m.set k 98).length = l.length + 1) := ⟨o4, b4, by simpa using h3⟩
      clear o3 b3 o4 b4 HJ
      go_wp2
      go_roundw
      case rel => exact ⟨k + 1, by omega, by go_num, _, HK.out⟩
      case measure => simp [intOf]; omega
    · have HB := HJ.out.2.1
      clear HJ
      go_wp2
      go_end0
      exact ⟨rfl, HB⟩
#print axioms spoil_any
#print axioms scanr_any
end Go.Proofs.Ythgicnfhclfcjaa
