/-
   · 
-/
import Derived.Test.YtpfiejmhnkcjbaaGreatDoorHG7x
import Derived.Test.YtpfiejmhnkcjbaaGreatDoorHG3x
namespace Go.Proofs.YtpfiejmhnkcjbaaGreatDoor
set_option maxHeartbeats 1000000
set_option maxRecDepth 8000
open Go.RowKit Math
set_option linter.unusedVariables false
theorem ak_struct (p : Vt) (hk : p.1.k = 9) (hkl : p.2.list.length <= 200) (hn : p.1.ns.length = p.2.list.length) (hn2 : ∀ x ∈ p.1.ns, x.size <= 40) (ih : ∀ q ∈ p.2.list, AvC q) (na : Option Addr) (nc : Nat) (ka : Option Addr) (kc : Nat) (v : Value) (l : List Nat) (B : Nat) (w0 W : World) (hv : Vl w0 p na nc ka kc) (hb : Below w0.heap.size w0 W) (hB0 : w0.heap.size <= B) (hB : B <= W.heap.size) (ho : Own W B v l) (hl : l.length + (uv p.2.list.length ++ enc p.2 true p.1.ns).length <= 700000000) :
 Calls Tryz.prog 163 #[v, .agg #[.int .i64 9, .int .i64 p.1.n, .int .i64 p.1.s, .string p.1.t, .slice na p.1.ns.length nc, .slice ka p.2.list.length kc]] W fun e w' => ∃ v' l', e = .returned v' /\ Hid (Ap B W w' v v' l' /\ Wr l (uv p.2.list.length ++ enc p.2 true p.1.ns) l') := by
 obtain ⟨W1, HW1⟩ : ∃ W1, Hid (W.alloc (.cells #[.int .i64 9, .int .i64 p.1.n, .int .i64 p.1.s, .string p.1.t, .slice na p.1.ns.length nc, .slice ka p.2.list.length kc] 41) = W1) := ⟨_, rfl⟩
 have HX : Hid (Blk W1 W.heap.size 41 [.int .i64 9, .int .i64 p.1.n, .int .i64 p.1.s, .string p.1.t, .slice na p.1.ns.length nc, .slice ka p.2.list.length kc]) := by rw [<- HW1.out]; exact blk_new W 41 [.int .i64 9, .int .i64 p.1.n, .int .i64 p.1.s, .string p.1.t, .slice na p.1.ns.length nc, .slice ka p.2.list.length kc]
 have HO1 : Hid (Own W1 B v l) := by rw [<- HW1.out]; exact ho.alloc _
 have hz1 : W1.heap.size = W.heap.size + 1 := by have := HW1.out; subst this; simp
 have HB1 : Hid (Below W.heap.size W W1) := by rw [<- HW1.out]; exact (Below.refl _ _).alloc (Nat.le_refl _) _
 have HN : Hid (v.ownBlock ≠ some W.heap.size) := ho.ne
 have HO : Hid (Own W B v l) := ho
 have HV : Hid (Vl w0 p na nc ka kc) := hv
 have HI : Hid (∀ q ∈ p.2.list, AvC q) := ih
 have HBw : Hid (Below w0.heap.size w0 W) := hb
 have HN1 : Hid (p.1.ns.length = p.2.list.length) := hn
 have HN2 : Hid (∀ x ∈ p.1.ns, x.size <= 40) := hn2
 have HT : Hid (l.length + (uv p.2.list.length ++ enc p.2 true p.1.ns).length <= 700000000) := hl
 have hll : l.length <= 700000000 := by omega
 have KU := apUv v l p.2.list.length (by omega) B W1 HO1.out (by omega) (by omega)
 have c5 : W1.cell? ⟨W.heap.size, 5, none⟩ = some (.slice ka p.2.list.length kc) := HX.out.cell 5
 clear ho hv ih hb hl hn hn2
 go_enter Tryz.func163, Tryz.ntmps163
 go_wp2_with fail
 generalize hWW : World.alloc W _ = W9
 obtain rfl : W1 = W9 := by rw [<- hWW, <- HW1.out]
 clear hWW HW1
 refine KU.mono ?_
 rintro e w1 ⟨v1, rfl, A1⟩
 have HI0 : Hid (KInv B W w1 v v1 l (l ++ uv p.2.list.length) [.int .i64 9, .int .i64 p.1.n, .int .i64 p.1.s, .string p.1.t, .slice na p.1.ns.length nc, .slice ka p.2.list.length kc] p.2 true p.1.ns 0 (uv p.2.list.length ++ enc p.2 true p.1.ns)) := by
  refine ⟨Ap.after HB1.out A1, A1.blk HX.out HN.out, fun e => ?_, ⟨uv p.2.list.length, Wr.all _ _, rfl⟩⟩
  rcases A1.ob _ e with h | h
  . exact HN.out h
  . omega
 have c5' : w1.cell? ⟨W.heap.size, 5, none⟩ = some (.slice ka p.2.list.length kc) := HI0.out.blk.cell 5
 clear A1 KU c5 HX HO1 HB1 HN hz1
 go_wp2
 clear c5'
 go_loopw [0, 16] (fun vb i wr => ∃ (k : Nat) (lk : List Nat), k <= p.2.list.length /\ i = .int .i64 (k : Int) /\ Hid (KInv B W wr v vb l lk [.int .i64 9, .int .i64 p.1.n, .int .i64 p.1.s, .string p.1.t, .slice na p.1.ns.length nc, .slice ka p.2.list.length kc] p.2 true p.1.ns k (uv p.2.list.length ++ enc p.2 true p.1.ns))) (fun _ i _ => p.2.list.length - (intOf i).toNat)
 case atStart => exact ⟨0, _, by omega, rfl, HI0.out⟩
 case round =>
  clear HI0
  obtain ⟨k, lk, hk0, rfl, HK⟩ := hrel
  by_cases hlt : k < p.2.list.length
  case neg =>
   have HF : Hid (Ap B W wr v u0 lk /\ Wr l (uv p.2.list.length ++ enc p.2 true p.1.ns) lk) := by
    obtain ⟨x, h1, h2⟩ := HK.out.wr
    rw [Fo.drop_end _ _ (by omega)] at h2
    simp only [enc, List.append_nil] at h2
    rw [h2]
    exact ⟨HK.out.ap, h1⟩
   go_wp2
   go_ret
   exact ⟨_, lk, rfl, HF.out⟩
  have HBr : Hid (Below w0.heap.size w0 wr) := HK.out.ap.below HO.out HBw.out HBw.out.size hB0
  obtain ⟨q, b, o, na', nc', ka', kc', hq, rfl, hnd, hvl⟩ := HV.out.kid (Below.refl _ _) (k := k) hlt
  have HQq : Hid (p.2.list[k]? = some q) := hq
  have HQ : Hid (AvC q) := HI.out q (List.mem_of_getElem? hq)
  have HVq : Hid (Vl w0 q na' nc' ka' kc') := hvl
  obtain ⟨d0, d1, d2, d3, d4, d5⟩ := hnd.below HBr.out
  clear hnd hvl hq
  go_wp2_with (refine al_zero rfl 41 rfl zer z25 ?_)
  intro g6 w6 hg6 Bz6 gr6
  go_wp2_with (refine st_all rfl 41 (.tmp 6) (.tmp 20) rfl g6 41 zer (six q.1 na' nc' ka' q.2.list.length kc') rfl rfl Bz6 rfl s25 (six_one _ _ _ _ _ _) ?_)
  intro w7 B7 gr7
  have B7x : Hid (Blk w7 g6 41 (six q.1 na' nc' ka' q.2.list.length kc')) := B7
  have G7 : Hid (Below wr.heap.size wr w7) := below_new gr6 hg6 gr7
  have cb0 : w7.cell? ⟨W.heap.size, 0, none⟩ = some (.int .i64 9) := (HK.out.blk.below G7.out HK.out.blk.lt).cell 0
  have e0 : w7.cell? ⟨g6, 0, none⟩ = some (.int .i64 q.1.k) := B7.cell 0
  have e1 : w7.cell? ⟨g6, 1, none⟩ = some (.int .i64 q.1.n) := B7.cell 1
  have e2 : w7.cell? ⟨g6, 2, none⟩ = some (.int .i64 q.1.s) := B7.cell 2
  have e3 : w7.cell? ⟨g6, 3, none⟩ = some (.string q.1.t) := B7.cell 3
  have e4 : w7.cell? ⟨g6, 4, none⟩ = some (.slice na' q.1.ns.length nc') := B7.cell 4
  have e5 : w7.cell? ⟨g6, 5, none⟩ = some (.slice ka' q.2.list.length kc') := B7.cell 5
  clear Bz6 gr6 gr7 B7 d0 d1 d2 d3 d4 d5
  have HB7 : Hid (Blk w7 g6 41 (six q.1 na' nc' ka' q.2.list.length kc')) := B7x.out
  obtain ⟨nm, hnm⟩ : ∃ nm, p.1.ns[k]? = some nm := ⟨_, List.getElem?_eq_getElem (by rw [HN1.out]; exact hlt)⟩
  have hns : nm.size <= 40 := HN2.out nm (List.mem_of_getElem? hnm)
  have HD : Hid ((p.1.ns.drop k).headD ⟨#[]⟩ = nm) := by
   show _ = _
   have := List.getElem?_eq_some_iff.1 hnm
   obtain ⟨h1, h2⟩ := this
   rw [List.drop_eq_getElem_cons h1, h2]
   rfl
  have hB7 : B <= w7.heap.size := by have := HK.out.ap.gr.size; have := G7.out.size; omega
  have HO7 : Hid (Own w7 B u0 lk) := HK.out.ap.own.below G7.out
  have Hb7 : Hid (Below w0.heap.size w0 w7) := HBr.out.trans (G7.out.mono HBr.out.size)
  have HLn : Hid (lk.length + (txB nm).length + (encV q).length <= 700000000) := by
   have h1 := HK.out.len
   have h2 := HT.out
   have h3 := congrArg List.length (enc_drop (b := true) (ns := p.1.ns) HQq.out)
   simp only [if_true] at h3
   rw [HD.out] at h3
   simp only [List.length_append] at h3 h1 h2
   show _ <= _
   omega
  have hlk : lk.length <= 700000000 := by have := HLn.out; omega
  have KT := apTx u0 lk nm B w7 HO7.out hB7 (by omega)
  rcases HV.out.nms with hem | ⟨bn, on, hna, hc⟩
  . rw [hem] at hnm; simp at hnm
  have hcn : w7.cell? ⟨bn, on + k, none⟩ = some (.string nm) := by
   have := hc k nm hnm
   rw [<- this]
   exact Hb7.out.cell (p := ⟨bn, on + k, none⟩) (cell_lt this)
  have cb4 : w7.cell? ⟨W.heap.size, 4, none⟩ = some (.slice (some ⟨bn, on, none⟩) p.1.ns.length nc) := by
   rw [<- hna]
   exact (HK.out.blk.below G7.out HK.out.blk.lt).cell 4
  have hkn : k < p.1.ns.length := by rw [HN1.out]; exact hlt
  clear hc hnm hna e0 e1 e2 e3 e4 e5
  go_wp2_with fail
  refine KT.mono ?_
  rintro e w8 ⟨v8, rfl, A8⟩
  have HA8 : Hid (Ap B w7 w8 u0 v8 (lk ++ txB nm)) := A8
  have B8 : Blk w8 g6 41 (six q.1 na' nc' ka' q.2.list.length kc') := A8.blk HB7.out (fun e => by have := (World.ownsRow.lt HK.out.ap.own _ e).2; omega)
  have e0 : w8.cell? ⟨g6, 0, none⟩ = some (.int .i64 q.1.k) := B8.cell 0
  have e1 : w8.cell? ⟨g6, 1, none⟩ = some (.int .i64 q.1.n) := B8.cell 1
  have e2 : w8.cell? ⟨g6, 2, none⟩ = some (.int .i64 q.1.s) := B8.cell 2
  have e3 : w8.cell? ⟨g6, 3, none⟩ = some (.string q.1.t) := B8.cell 3
  have e4 : w8.cell? ⟨g6, 4, none⟩ = some (.slice na' q.1.ns.length nc') := B8.cell 4
  have e5 : w8.cell? ⟨g6, 5, none⟩ = some (.slice ka' q.2.list.length kc') := B8.cell 5
  have KQ := HQ.out na' nc' ka' kc' v8 (lk ++ txB nm) B w0 w8 HVq.out (A8.below HO7.out Hb7.out Hb7.out.size hB0) hB0 (Nat.le_trans hB7 A8.gr.size) A8.own (by rw [List.length_append]; exact HLn.out)
  clear A8 B8 KT hcn cb4
  go_wp2_with fail
  refine KQ.mono ?_
  rintro e w9 ⟨v9, l9, rfl, H9⟩
  have HK2 : Hid (KInv B W w9 v v9 l l9 [.int .i64 9, .int .i64 p.1.n, .int .i64 p.1.s, .string p.1.t, .slice na p.1.ns.length nc, .slice (some ⟨b, o, none⟩) p.2.list.length kc] p.2 true p.1.ns (k + 1) (uv p.2.list.length ++ enc p.2 true p.1.ns)) := HK.out.step HQq.out G7.out (HA8.out.trans H9.out.1) (by
   simp only [if_true]
   rw [HD.out]
   exact (Wr.all lk (txB nm)).trans H9.out.2)
  clear KQ H9 HK e0 e1 e2 e3 e4 e5 cb0 HA8
  go_wp2
  go_roundw
  case rel => exact ⟨k + 1, l9, by omega, by go_num, HK2.out⟩
  case measure => simp [intOf]; omega
end Go.Proofs.YtpfiejmhnkcjbaaGreatDoor
namespace Go.Proofs.YtpfiejmhnkcjbaaGreatDoor
set_option maxRecDepth 8000
open Go.RowKit Math
set_option linter.unusedVariables false
theorem av_8 (n s : Int) (t : ByteArray) (na : Option Addr) (nl nc : Nat) (ka : Option Addr) (kl kc : Nat) (ax : Option Addr) (c : Nat) (l : List Nat) (hl : l.length <= 65536) (X : List Nat) (B : Nat) (W : World) (ho : Own W B (.slice ax l.length c) l) (hB : B <= W.heap.size)
 (KK : Hid (∀ v1 w1, Ap B W w1 (.slice ax l.length c) v1 (l ++ [8]) -> Calls Tryz.prog 163 #[v1, .agg #[.int .i64 8, .int .i64 n, .int .i64 s, .string t, .slice na nl nc, .slice ka kl kc]] w1 fun e w' => ∃ v' l', e = .returned v' /\ Hid (Ap B w1 w' v1 v' l' /\ Wr (l ++ [8]) X l'))) :
 Calls Tryz.prog 138 #[.slice ax l.length c, .agg #[.int .i64 8, .int .i64 n, .int .i64 s, .string t, .slice na nl nc, .slice ka kl kc]] W fun e w' => ∃ v' l', e = .returned v' /\ Hid (Ap B W w' (.slice ax l.length c) v' l' /\ Wr l (8 :: X) l') := by
 have h1 : decide ((65536 : Int) < (l.length : Int)) = false := by simp; omega
 have hb0 : Below W.heap.size W (W.alloc (.cells #[.int .i64 8, .int .i64 n, .int .i64 s, .string t, .slice na nl nc, .slice ka kl kc] 41)) := (Below.refl _ _).alloc (Nat.le_refl _) _
 have HO : Hid (Own (W.alloc (.cells #[.int .i64 8, .int .i64 n, .int .i64 s, .string t, .slice na nl nc, .slice ka kl kc] 41)) B (.slice ax l.length c) l) := ho.alloc _
 have HX : Hid (Blk (W.alloc (.cells #[.int .i64 8, .int .i64 n, .int .i64 s, .string t, .slice na nl nc, .slice ka kl kc] 41)) W.heap.size 41 [.int .i64 8, .int .i64 n, .int .i64 s, .string t, .slice na nl nc, .slice ka kl kc]) := blk_new W 41 [.int .i64 8, .int .i64 n, .int .i64 s, .string t, .slice na nl nc, .slice ka kl kc]
 have HN : Hid ((Value.slice ax l.length c).ownBlock ≠ some W.heap.size) := ho.ne
 have HB0 : Hid (Below W.heap.size W (W.alloc (.cells #[.int .i64 8, .int .i64 n, .int .i64 s, .string t, .slice na nl nc, .slice ka kl kc] 41))) := hb0
 have hz : B <= (W.alloc (.cells #[.int .i64 8, .int .i64 n, .int .i64 s, .string t, .slice na nl nc, .slice ka kl kc] 41)).heap.size := by simp; omega
 have HZ : Hid ((W.alloc (.cells #[.int .i64 8, .int .i64 n, .int .i64 s, .string t, .slice na nl nc, .slice ka kl kc] 41)).heap.size = W.heap.size + 1) := by show _ = _; simp
 clear ho hb0
 go_enter Tryz.func138, Tryz.ntmps138
 go_wp2_with (at_builtin; go_must (generalize hWW : World.alloc W _ = W1 at *; refine ap_bytes rfl (.tmp 9) (.tmp 13) rfl B _ l rfl (HO.out.alloc _) _ _ _ [8] rfl rfl (byt_at W1 [8] _ HZ.out) (by simp) (by simp; omega) (by simp; omega) ?_))
 intro v1 w1 A1
 have HA : Hid (Ap B W1 w1 (.slice ax l.length c) v1 (l ++ [8])) := Ap.after ((Below.refl _ _).alloc (Nat.le_refl _) _) A1
 clear A1
 have hb1 : B <= w1.heap.size := Nat.le_trans hz HA.out.gr.size
 have HX1 : Hid (Blk w1 W.heap.size 41 [.int .i64 8, .int .i64 n, .int .i64 s, .string t, .slice na nl nc, .slice ka kl kc]) := HA.out.blk HX.out HN.out
 have HNE : Hid (v1.ownBlock ≠ some W.heap.size) := fun e => by
  rcases HA.out.ob _ e with h | h
  . exact HN.out h
  . rw [HZ.out] at h
    omega
 have HAW : Hid (Ap B W w1 (.slice ax l.length c) v1 (l ++ [8])) := Ap.after HB0.out HA.out
 clear HA HX HO HB0 hWW hz
 have c0 : w1.cell? ⟨W.heap.size, 0, none⟩ = some (.int .i64 8) := HX1.out.cell 0
 have c1 : w1.cell? ⟨W.heap.size, 1, none⟩ = some (.int .i64 n) := HX1.out.cell 1
 have c2 : w1.cell? ⟨W.heap.size, 2, none⟩ = some (.int .i64 s) := HX1.out.cell 2
 have c3 : w1.cell? ⟨W.heap.size, 3, none⟩ = some (.string t) := HX1.out.cell 3
 have c4 : w1.cell? ⟨W.heap.size, 4, none⟩ = some (.slice na nl nc) := HX1.out.cell 4
 have c5 : w1.cell? ⟨W.heap.size, 5, none⟩ = some (.slice ka kl kc) := HX1.out.cell 5
 have K := KK.out v1 w1 HAW.out
 clear KK
 go_wp2_with fail
 refine K.mono ?_
 clear K c0 c1 c2 c3 c4 c5
 rintro e w2 ⟨v2, l2, rfl, A2⟩
 have HA2 : Hid (Ap B W w2 (.slice ax l.length c) v2 l2 /\ Wr l (8 :: X) l2) := ⟨HAW.out.trans A2.out.1, (Wr.all l [8]).trans A2.out.2⟩
 clear A2
 go_wp2
 go_ret
 exact ⟨v2, l2, rfl, HA2.out⟩
theorem av_9 (n s : Int) (t : ByteArray) (na : Option Addr) (nl nc : Nat) (ka : Option Addr) (kl kc : Nat) (ax : Option Addr) (c : Nat) (l : List Nat) (hl : l.length <= 65536) (X : List Nat) (B : Nat) (W : World) (ho : Own W B (.slice ax l.length c) l) (hB : B <= W.heap.size)
 (KK : Hid (∀ v1 w1, Ap B W w1 (.slice ax l.length c) v1 (l ++ [9]) -> Calls Tryz.prog 163 #[v1, .agg #[.int .i64 9, .int .i64 n, .int .i64 s, .string t, .slice na nl nc, .slice ka kl kc]] w1 fun e w' => ∃ v' l', e = .returned v' /\ Hid (Ap B w1 w' v1 v' l' /\ Wr (l ++ [9]) X l'))) :
 Calls Tryz.prog 138 #[.slice ax l.length c, .agg #[.int .i64 9, .int .i64 n, .int .i64 s, .string t, .slice na nl nc, .slice ka kl kc]] W fun e w' => ∃ v' l', e = .returned v' /\ Hid (Ap B W w' (.slice ax l.length c) v' l' /\ Wr l (9 :: X) l') := by
 have h1 : decide ((65536 : Int) < (l.length : Int)) = false := by simp; omega
 have hb0 : Below W.heap.size W (W.alloc (.cells #[.int .i64 9, .int .i64 n, .int .i64 s, .string t, .slice na nl nc, .slice ka kl kc] 41)) := (Below.refl _ _).alloc (Nat.le_refl _) _
 have HO : Hid (Own (W.alloc (.cells #[.int .i64 9, .int .i64 n, .int .i64 s, .string t, .slice na nl nc, .slice ka kl kc] 41)) B (.slice ax l.length c) l) := ho.alloc _
 have HX : Hid (Blk (W.alloc (.cells #[.int .i64 9, .int .i64 n, .int .i64 s, .string t, .slice na nl nc, .slice ka kl kc] 41)) W.heap.size 41 [.int .i64 9, .int .i64 n, .int .i64 s, .string t, .slice na nl nc, .slice ka kl kc]) := blk_new W 41 [.int .i64 9, .int .i64 n, .int .i64 s, .string t, .slice na nl nc, .slice ka kl kc]
 have HN : Hid ((Value.slice ax l.length c).ownBlock ≠ some W.heap.size) := ho.ne
 have HB0 : Hid (Below W.heap.size W (W.alloc (.cells #[.int .i64 9, .int .i64 n, .int .i64 s, .string t, .slice na nl nc, .slice ka kl kc] 41))) := hb0
 have hz : B <= (W.alloc (.cells #[.int .i64 9, .int .i64 n, .int .i64 s, .string t, .slice na nl nc, .slice ka kl kc] 41)).heap.size := by simp; omega
 have HZ : Hid ((W.alloc (.cells #[.int .i64 9, .int .i64 n, .int .i64 s, .string t, .slice na nl nc, .slice ka kl kc] 41)).heap.size = W.heap.size + 1) := by show _ = _; simp
 clear ho hb0
 go_enter Tryz.func138, Tryz.ntmps138
 go_wp2_with (at_builtin; go_must (generalize hWW : World.alloc W _ = W1 at *; refine ap_bytes rfl (.tmp 9) (.tmp 13) rfl B _ l rfl (HO.out.alloc _) _ _ _ [9] rfl rfl (byt_at W1 [9] _ HZ.out) (by simp) (by simp; omega) (by simp; omega) ?_))
 intro v1 w1 A1
 have HA : Hid (Ap B W1 w1 (.slice ax l.length c) v1 (l ++ [9])) := Ap.after ((Below.refl _ _).alloc (Nat.le_refl _) _) A1
 clear A1
 have hb1 : B <= w1.heap.size := Nat.le_trans hz HA.out.gr.size
 have HX1 : Hid (Blk w1 W.heap.size 41 [.int .i64 9, .int .i64 n, .int .i64 s, .string t, .slice na nl nc, .slice ka kl kc]) := HA.out.blk HX.out HN.out
 have HNE : Hid (v1.ownBlock ≠ some W.heap.size) := fun e => by
  rcases HA.out.ob _ e with h | h
  . exact HN.out h
  . rw [HZ.out] at h
    omega
 have HAW : Hid (Ap B W w1 (.slice ax l.length c) v1 (l ++ [9])) := Ap.after HB0.out HA.out
 clear HA HX HO HB0 hWW hz
 have c0 : w1.cell? ⟨W.heap.size, 0, none⟩ = some (.int .i64 9) := HX1.out.cell 0
 have c1 : w1.cell? ⟨W.heap.size, 1, none⟩ = some (.int .i64 n) := HX1.out.cell 1
 have c2 : w1.cell? ⟨W.heap.size, 2, none⟩ = some (.int .i64 s) := HX1.out.cell 2
 have c3 : w1.cell? ⟨W.heap.size, 3, none⟩ = some (.string t) := HX1.out.cell 3
 have c4 : w1.cell? ⟨W.heap.size, 4, none⟩ = some (.slice na nl nc) := HX1.out.cell 4
 have c5 : w1.cell? ⟨W.heap.size, 5, none⟩ = some (.slice ka kl kc) := HX1.out.cell 5
 have K := KK.out v1 w1 HAW.out
 clear KK
 go_wp2_with fail
 refine K.mono ?_
 clear K c0 c1 c2 c3 c4 c5
 rintro e w2 ⟨v2, l2, rfl, A2⟩
 have HA2 : Hid (Ap B W w2 (.slice ax l.length c) v2 l2 /\ Wr l (9 :: X) l2) := ⟨HAW.out.trans A2.out.1, (Wr.all l [9]).trans A2.out.2⟩
 clear A2
 go_wp2
 go_ret
 exact ⟨v2, l2, rfl, HA2.out⟩
theorem av_step (p : Vt) (hw : WfV p) (hc : chk0V p = 0) (ih : ∀ q ∈ p.2.list, AvC q) : AvC p := by
 intro na nc ka kc v l B w0 W hv hb hB0 hB ho hlen
 obtain ⟨ax, c, rfl, _, _, _, _⟩ := ho.byt
 by_cases hl : 65536 < l.length
 . refine (av_long p.1.k p.1.n p.1.s p.1.t na p.1.ns.length nc ka p.2.list.length kc ax c l hl W).mono ?_
   rintro e w' ⟨rfl, g⟩
   exact ⟨_, l, rfl, Ap.after g (Ap.refl (ho.below g)), ⟨Nat.le_refl _, by omega, .inr hl⟩⟩
 have hl : l.length <= 65536 := by omega
 obtain ⟨hown, hkid⟩ := own_of0 hc
 obtain ⟨hf, ht, hkl, hnm⟩ := own_fine hown
 have fin : ∀ {w' : World} {e : Ending} (x : List Nat), x = encV p -> (∃ v', e = .returned v' /\ Ap B W w' (.slice ax l.length c) v' (l ++ x)) -> ∃ v' l', e = .returned v' /\ Hid (Ap B W w' (.slice ax l.length c) v' l' /\ Wr l (encV p) l') := by
  rintro w' e x rfl ⟨v', rfl, A⟩
  exact ⟨v', _, rfl, A, Wr.all _ _⟩
 have enil : p.2 = .nil -> encV p = headB p.1 0 := fun h => by unfold encV; rw [h]; simp [enc, Fo.list]
 unfold formed at hf
 split at hf
 . next h =>
   obtain ⟨a1, a2, a3, a4, a5⟩ := leaf_of hf (by decide) (by decide)
   rw [h]
   exact (av_1 p.1.n p.1.s p.1.t na p.1.ns.length nc ka p.2.list.length kc ax c l hl B W ho hB).mono fun e w' H => fin _ (by rw [enil a2, headB, bodyB, h]; rfl) H
 split at hf
 . next _ h =>
   rw [Bool.and_eq_true] at hf
   obtain ⟨a1, a2, a3, a4, a5⟩ := leaf_of hf.1 (by decide) (by decide)
   have hn : p.1.n = 0 ∨ p.1.n = 1 := by simpa using hf.2
   rw [h]
   exact (av_2 p.1.n p.1.s p.1.t na p.1.ns.length nc ka p.2.list.length kc ax c l hl p.1.n.toNat (by omega) (by omega) B W ho hB).mono fun e w' H => fin _ (by rw [enil a2, headB, bodyB, h]; rfl) H
 split at hf
 . next _ _ h =>
   obtain ⟨a1, a2, a3, a4, a5⟩ := leaf_of hf (by decide) (by decide)
   rw [h]
   exact (av_3 p.1.n p.1.s p.1.t na p.1.ns.length nc ka p.2.list.length kc ax c l hl hw.1.n0 hw.1.n1 B W ho hB).mono fun e w' H => fin _ (by rw [enil a2, headB, bodyB, h]; rfl) H
 split at hf
 . next _ _ _ h =>
   simp only [Bool.and_eq_true, decide_eq_true_eq] at hf
   obtain ⟨⟨⟨b1, b2⟩, b3⟩, b4⟩ := hf
   obtain ⟨a1, a2, a3, a4, a5⟩ := leaf_of b1 (by decide) (by decide)
   obtain ⟨s, hs⟩ : ∃ s : Nat, p.1.s = s := ⟨p.1.s.toNat, by omega⟩
   rw [h, hs]
   exact (av_4 p.1.n p.1.t na p.1.ns.length nc ka p.2.list.length kc ax c l hl hw.1.n0 hw.1.n1 s (by omega) B W ho hB).mono fun e w' H => fin _ (by rw [enil a2, headB, bodyB, h, hs]; rfl) H
 split at hf
 . next _ _ _ _ h =>
   simp only [Bool.and_eq_true, decide_eq_true_eq] at hf
   obtain ⟨⟨b1, b2⟩, b3⟩ := hf
   obtain ⟨a1, a2, a3, a4, a5⟩ := leaf_of b1 (by decide) (by decide)
   rw [h]
   exact (av_5 p.1.n p.1.s p.1.t na p.1.ns.length nc ka p.2.list.length kc ax c l hl p.1.n.toNat (by omega) (by omega) B W ho hB).mono fun e w' H => fin _ (by rw [enil a2, headB, bodyB, h]; rfl) H
 split at hf
 . next _ _ _ _ _ h =>
   obtain ⟨a1, a2, a3, a4, a5⟩ := leaf_of hf (by decide) (by decide)
   rw [h]
   exact (av_6 p.1.n p.1.s p.1.t na p.1.ns.length nc ka p.2.list.length kc ax c l hl ht B W ho hB).mono fun e w' H => fin _ (by rw [enil a2, headB, bodyB, h]; rfl) H
 split at hf
 . next _ _ _ _ _ _ h =>
   obtain ⟨a1, a2, a3, a4, a5⟩ := leaf_of hf (by decide) (by decide)
   rw [h]
   exact (av_7 p.1.n p.1.s p.1.t na p.1.ns.length nc ka p.2.list.length kc ax c l hl ht B W ho hB).mono fun e w' H => fin _ (by rw [enil a2, headB, bodyB, h]; rfl) H
 split at hf
 . next _ _ _ _ _ _ _ h =>
   have e : encV p = 8 :: (uv p.2.list.length ++ enc p.2 false p.1.ns) := by unfold encV; rw [headB, bodyB, h]; rfl
   rw [e] at hlen ⊢
   rw [h]
   refine av_8 p.1.n p.1.s p.1.t na p.1.ns.length nc ka p.2.list.length kc ax c l hl _ B W ho hB (fun v1 w1 A => ?_)
   have hsz := A.gr.size
   exact ak_list p h hkl ih na nc ka kc v1 (l ++ [8]) B w0 w1 hv (A.below ho hb hb.size hB0) hB0 (by omega) A.own (by simp only [List.length_append, List.length_cons, List.length_nil] at hlen ⊢; omega)
 split at hf
 . next _ _ _ _ _ _ _ _ h =>
   have e : encV p = 9 :: (uv p.2.list.length ++ enc p.2 true p.1.ns) := by unfold encV; rw [headB, bodyB, h]; rfl
   rw [e] at hlen ⊢
   rw [h]
   obtain ⟨n1, n2⟩ := names_len (hnm h)
   refine av_9 p.1.n p.1.s p.1.t na p.1.ns.length nc ka p.2.list.length kc ax c l hl _ B W ho hB (fun v1 w1 A => ?_)
   have hsz := A.gr.size
   exact ak_struct p h hkl n1 n2 ih na nc ka kc v1 (l ++ [9]) B w0 w1 hv (A.below ho hb hb.size hB0) hB0 (by omega) A.own (by simp only [List.length_append, List.length_cons, List.length_nil] at hlen ⊢; omega)
 . cases hf
theorem av_any : ∀ (N : Nat) (p : Vt), wt p <= N -> WfV p -> chk0V p = 0 -> AvC p := by
 intro N
 induction N with
 | zero => intro p hp; exfalso; unfold wt at hp; omega
 | succ N ih =>
   intro p hp hw hc
   exact av_step p hw hc fun q hq => ih q (by have := wt_kid hq; omega) (hw.kid hq) (chk0_mem (own_of0 hc).2 hq)
theorem bound_head {h : Hd} {kl : Nat} (ho : own h kl = 0) (n0 : -9223372036854775808 <= h.n) (n1 : h.n < 9223372036854775808) : (headB h kl).length <= 40 + h.t.size := by
 obtain ⟨hf, ht, hkl, hnm⟩ := own_fine ho
 have z := uv_ten _ (zig_nat h.n n0 n1).1
 have u1 := uv_ten h.t.size (by omega)
 have u2 := uv_ten kl (by omega)
 have u3 := uv_ten h.n.toNat (by omega)
 unfold headB bodyB txB
 rw [List.length_cons]
 split
 . simp; omega
 split
 . omega
 split
 . simp; omega
 split
 . omega
 split
 . rw [List.length_append, bts_len]; omega
 split
 . rw [List.length_append, bts_len]; omega
 split
 . omega
 split
 . omega
 . simp
   omega
theorem bound_enc : ∀ (f : Fo) (b : Bool) (ns : List ByteArray), Wf f -> chk0 f = 0 -> (∀ x ∈ ns, x.size <= 40) -> (enc f b ns).length <= 120 * f.ws
 | .nil, _, _, _, _, _ => by simp [enc]
 | .cons h k r, b, ns, hw, hc, hn => by
   have c1 := chk0_mem (p := (h, k)) hc (by simp [Fo.list])
   have c2 : chk0 r = 0 := by
    have e : chk0 (.cons h k r) = if chk0V (h, k) ≠ 0 then chk0V (h, k) else chk0 r := rfl
    rw [e, if_neg (by simpa using c1)] at hc
    exact hc
   obtain ⟨a, b'⟩ := own_of0 c1
   have hk := own_fine a
   have B1 : (headB h k.list.length).length <= 40 + h.t.size := bound_head a hw.1.1.n0 hw.1.1.n1
   have hns : ∀ x ∈ (if h.k = 9 then h.ns else []), x.size <= 40 := fun x hx => by
    split at hx
    . next h9 => exact (names_len (hk.nm h9)).2 x hx
    . cases hx
   have B2 : (enc k (decide (h.k = 9)) h.ns).length <= 120 * k.ws := by
    by_cases h9 : h.k = 9
    . exact bound_enc k _ _ hw.1.2.2 b' (names_len (hk.nm h9)).2
    . have e0 : ∀ (f : Fo) (ns : List ByteArray), enc f false ns = enc f false [] := by
       intro f
       induction f with
       | nil => intro ns; rfl
       | cons h k r _ ih =>
         intro ns
         show (_ ++ _) ++ enc r false ns.tail = (_ ++ _) ++ enc r false ([] : List ByteArray).tail
         rw [ih ns.tail, ih ([] : List ByteArray).tail]
         simp
      have e1 : decide (h.k = 9) = false := by simpa using h9
      rw [e1, e0]
      exact bound_enc k false [] hw.1.2.2 b' (by simp)
   have B3 := bound_enc r b ns.tail hw.2 c2 (fun x hx => hn x (List.mem_of_mem_tail hx))
   have B4 : (if b then txB (ns.headD ⟨#[]⟩) else []).length <= 60 := by
    cases b
    . simp
    . simp only [if_true]
      have hs : (ns.headD ⟨#[]⟩).size <= 40 := by
       cases ns with
       | nil => decide
       | cons x ns => exact hn x (by simp)
      unfold txB
      rw [List.length_append, bts_len]
      have := uv_ten (ns.headD ⟨#[]⟩).size (by omega)
      omega
   have hk2 := len_ws k
   have e : enc (.cons h k r) b ns = ((if b then txB (ns.headD ⟨#[]⟩) else []) ++ (headB h k.list.length ++ enc k (decide (h.k = 9)) h.ns)) ++ enc r b ns.tail := rfl
   rw [e, List.length_append, List.length_append, List.length_append]
   simp only [Fo.ws, wsH]
   omega
theorem bound_V (p : Vt) (hw : WfV p) (hc : chk0V p = 0) : (encV p).length <= 120 * ws p := by
 have h := bound_enc (.cons p.1 p.2 .nil) false [] ⟨hw, trivial⟩ (by rw [chk0_cons, if_neg (by simpa using hc)]; rfl) (by simp)
 rw [enc_cons] at h
 simp only [Bool.false_eq_true, if_false, List.nil_append, enc, List.append_nil, Fo.ws] at h
 exact h
end Go.Proofs.YtpfiejmhnkcjbaaGreatDoor
