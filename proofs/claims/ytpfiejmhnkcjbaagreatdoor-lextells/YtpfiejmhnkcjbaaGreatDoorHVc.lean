import Derived.Test.YtpfiejmhnkcjbaaGreatDoorHVb
namespace Go.Proofs.YtpfiejmhnkcjbaaGreatDoor
set_option maxHeartbeats 1000000
set_option maxRecDepth 8000
open Go.RowKit Math
set_option linter.unusedVariables false
set_option linter.unusedSimpArgs false
def RbC (p : Vt) : Prop := ∀ (na : Option Addr) (nc : Nat) (ka : Option Addr) (kc : Nat) (v : Value) (l : List Nat) (B : Nat) (w0 W : World), Vl w0 p na nc ka kc -> Below w0.heap.size w0 W -> w0.heap.size <= B -> B <= W.heap.size -> Own W B v l -> l.length + (encV p).length <= 700000000 ->
 Calls Tryz.prog 114 #[v, .agg #[.int .i64 p.1.k, .int .i64 p.1.n, .int .i64 p.1.s, .string p.1.t, .slice na p.1.ns.length nc, .slice ka p.2.list.length kc]] W fun e w' => ∃ v' l', e = .returned v' /\ Hid (Ap B W w' v v' l' /\ Wr l (encV p) l')
theorem rb_8 (p : Vt) (hkl : p.2.list.length <= 200) (ih : ∀ q ∈ p.2.list, RbC q) (na : Option Addr) (nc : Nat) (ka : Option Addr) (kc : Nat) (v : Value) (l : List Nat) (w0 : World) (hl0 : l.length + 1 + (uv p.2.list.length ++ enc p.2 false p.1.ns).length <= 700000000) (B : Nat) (W : World) (ho : Own W B v l) (hB : B <= W.heap.size) (hv : Vl w0 p na nc ka kc) (hb : Below w0.heap.size w0 W) (hB0 : w0.heap.size <= B) :
 Calls Tryz.prog 114 #[v, .agg #[.int .i64 8, .int .i64 p.1.n, .int .i64 p.1.s, .string p.1.t, .slice na p.1.ns.length nc, .slice ka p.2.list.length kc]] W fun e w' => ∃ v' l', e = .returned v' /\ Hid (Ap B W w' v v' l' /\ Wr l (8 :: (uv p.2.list.length ++ enc p.2 false p.1.ns)) l') := by
 obtain ⟨W1, HW1⟩ : ∃ W1, Hid (W.alloc (.cells #[.int .i64 8, .int .i64 p.1.n, .int .i64 p.1.s, .string p.1.t, .slice na p.1.ns.length nc, .slice ka p.2.list.length kc] 41) = W1) := ⟨_, rfl⟩
 have HX : Hid (Blk W1 W.heap.size 41 [.int .i64 8, .int .i64 p.1.n, .int .i64 p.1.s, .string p.1.t, .slice na p.1.ns.length nc, .slice ka p.2.list.length kc]) := by rw [<- HW1.out]; exact blk_new W 41 [.int .i64 8, .int .i64 p.1.n, .int .i64 p.1.s, .string p.1.t, .slice na p.1.ns.length nc, .slice ka p.2.list.length kc]
 have HO1 : Hid (Own W1 B v l) := by rw [<- HW1.out]; exact ho.alloc _
 have hz1 : W1.heap.size = W.heap.size + 1 := by have := HW1.out; subst this; simp
 have HB1 : Hid (Below W.heap.size W W1) := by rw [<- HW1.out]; exact (Below.refl _ _).alloc (Nat.le_refl _) _
 have HN : Hid (v.ownBlock ≠ some W.heap.size) := ho.ne
 have c0 : W1.cell? ⟨W.heap.size, 0, none⟩ = some (.int .i64 8) := HX.out.cell 0
 have HO : Hid (Own W B v l) := ho
 have HV : Hid (Vl w0 p na nc ka kc) := hv
 have HI : Hid (∀ q ∈ p.2.list, RbC q) := ih
 have HBw : Hid (Below w0.heap.size w0 W) := hb
 have HT : Hid (l.length + 1 + (uv p.2.list.length ++ enc p.2 false p.1.ns).length <= 700000000) := hl0
 have hl : l.length <= 700000000 := by omega
 clear ho hv ih hb hl0
 go_enter Tryz.func114, Tryz.ntmps114
 go_wp2_with (at_builtin; go_must (generalize hWW : World.alloc W _ = W9; obtain rfl : W1 = W9 := (by rw [<- hWW, <- HW1.out]); clear hWW HW1; refine ap_bytes rfl (.tmp 6) (.tmp 10) rfl B v l rfl (HO1.out.alloc _) _ _ _ [8] rfl rfl (byt_at W1 [8] _ hz1) (by simp) (by simp; omega) (by simp; omega) ?_))
 intro v1 w1 A1
 have HA : Hid (Ap B W1 w1 v v1 (l ++ [8])) := Ap.after ((Below.refl _ _).alloc (Nat.le_refl _) _) A1
 clear A1 c0
 have hb1 : B <= w1.heap.size := by have := HA.out.gr.size; omega
 have HX1 : Hid (Blk w1 W.heap.size 41 [.int .i64 8, .int .i64 p.1.n, .int .i64 p.1.s, .string p.1.t, .slice na p.1.ns.length nc, .slice ka p.2.list.length kc]) := HA.out.blk HX.out HN.out
 have HNE : Hid (v1.ownBlock ≠ some W.heap.size) := fun e => by
  rcases HA.out.ob _ e with h | h
  . exact HN.out h
  . omega
 have HAW : Hid (Ap B W w1 v v1 (l ++ [8])) := Ap.after HB1.out HA.out
 clear HA HX HO1 HB1 hz1
 have c0 : w1.cell? ⟨W.heap.size, 0, none⟩ = some (.int .i64 8) := HX1.out.cell 0
 have c5 : w1.cell? ⟨W.heap.size, 5, none⟩ = some (.slice ka p.2.list.length kc) := HX1.out.cell 5
 have K2 := uvr_any p.2.list.length (by omega) w1
 have h10 := uv_ten p.2.list.length (by omega)
 go_wp2_with fail
 refine K2.mono ?_
 rintro e w3 ⟨r, rfl, o3, b3⟩
 obtain ⟨ax, cx, rfl, hby, hnil, _⟩ := o3.byt
 have hs3 := b3.size
 have HB3 : Hid (Below w1.heap.size w1 w3) := b3
 have HY : Hid (Byt w3 ax (uv p.2.list.length)) := hby
 have HO3 : Hid (Own w3 B v1 (l ++ [8])) := HAW.out.own.below b3
 clear o3 b3 K2 hby c0 c5
 go_wp2_with (at_builtin; go_must (refine ap_bytes rfl (.tmp 62) (.tmp 67) rfl B v1 (l ++ [8]) rfl HO3.out ax _ cx (uv p.2.list.length) rfl rfl HY.out hnil (by simp; omega) (by omega) ?_))
 intro v4 w4 A4
 have A4 : Ap B w3 w4 v1 v4 ((l ++ [8]) ++ uv p.2.list.length) := by simpa using A4
 have HI0 : Hid (KInv B W w4 v v4 (l ++ [8]) ((l ++ [8]) ++ uv p.2.list.length) [.int .i64 8, .int .i64 p.1.n, .int .i64 p.1.s, .string p.1.t, .slice na p.1.ns.length nc, .slice ka p.2.list.length kc] p.2 false p.1.ns 0 (uv p.2.list.length ++ enc p.2 false p.1.ns)) := by
  refine ⟨HAW.out.trans (Ap.after HB3.out A4), A4.blk (HX1.out.below HB3.out HX1.out.lt) HNE.out, fun e => ?_, ⟨uv p.2.list.length, Wr.all _ _, rfl⟩⟩
  rcases A4.ob _ e with h | h
  . exact HNE.out h
  . have := HX1.out.lt
    omega
 clear A4 HX1 HNE HAW HY HO3 HB3 hnil h10 hs3 hb1 HN
 go_wp2
 go_loopw [0, 5] (fun vb i wr => ∃ (k : Nat) (lk : List Nat), k <= p.2.list.length /\ i = .int .i64 (k : Int) /\ Hid (KInv B W wr v vb (l ++ [8]) lk [.int .i64 8, .int .i64 p.1.n, .int .i64 p.1.s, .string p.1.t, .slice na p.1.ns.length nc, .slice ka p.2.list.length kc] p.2 false p.1.ns k (uv p.2.list.length ++ enc p.2 false p.1.ns))) (fun _ i _ => p.2.list.length - (intOf i).toNat)
 case atStart => exact ⟨0, _, by omega, rfl, HI0.out⟩
 case round =>
  clear HI0
  obtain ⟨k, lk, hk0, rfl, HK⟩ := hrel
  have cb0 : wr.cell? ⟨W.heap.size, 0, none⟩ = some (.int .i64 8) := HK.out.blk.cell 0
  have cb5 : wr.cell? ⟨W.heap.size, 5, none⟩ = some (.slice ka p.2.list.length kc) := HK.out.blk.cell 5
  by_cases hlt : k < p.2.list.length
  case neg =>
   have HF : Hid (Ap B W wr v u0 lk /\ Wr l (8 :: (uv p.2.list.length ++ enc p.2 false p.1.ns)) lk) := by
    obtain ⟨x, h1, h2⟩ := HK.out.wr
    rw [Fo.drop_end _ _ (by omega)] at h2
    simp only [enc, List.append_nil] at h2
    rw [h2]
    exact ⟨HK.out.ap, (Wr.all l [8]).trans h1⟩
   go_wp2
   go_ret
   exact ⟨_, lk, rfl, HF.out⟩
  have HBr : Hid (Below w0.heap.size w0 wr) := HK.out.ap.below HO.out HBw.out HBw.out.size hB0
  obtain ⟨q, b, o, na', nc', ka', kc', hq, rfl, hnd, hvl⟩ := HV.out.kid (Below.refl _ _) (k := k) hlt
  have HQq : Hid (p.2.list[k]? = some q) := hq
  have HQ : Hid (RbC q) := HI.out q (List.mem_of_getElem? hq)
  have HVq : Hid (Vl w0 q na' nc' ka' kc') := hvl
  have HND := hnd
  have hBr : B <= wr.heap.size := by have := HK.out.ap.gr.size; omega
  obtain ⟨d0, d1, d2, d3, d4, d5⟩ := hnd.below HBr.out
  clear HND hvl hq
  have KQ := HQ.out na' nc' ka' kc' u0 lk B w0 wr HVq.out HBr.out hB0 hBr HK.out.ap.own (by
   have h1 := HK.out.len
   have h2 := HT.out
   have h3 := congrArg List.length (enc_drop (b := false) (ns := p.1.ns) HQq.out)
   simp only [List.length_append, List.length_cons, List.length_nil] at h3 h1 h2
   omega)
  go_wp2_with fail
  refine KQ.mono ?_
  rintro e w9 ⟨v9, l9, rfl, H9⟩
  have HK2 : Hid (KInv B W w9 v v9 (l ++ [8]) l9 [.int .i64 8, .int .i64 p.1.n, .int .i64 p.1.s, .string p.1.t, .slice na p.1.ns.length nc, .slice (some ⟨b, o, none⟩) p.2.list.length kc] p.2 false p.1.ns (k + 1) (uv p.2.list.length ++ enc p.2 false p.1.ns)) := HK.out.step HQq.out (Below.refl _ _) H9.out.1 (by simpa using H9.out.2)
  clear KQ H9 HK d0 d1 d2 d3 d4 d5 cb0 cb5
  go_wp2
  go_roundw
  case rel => exact ⟨k + 1, l9, by omega, by go_num, HK2.out⟩
  case measure => simp [intOf]; omega
theorem rb_9 (p : Vt) (hkl : p.2.list.length <= 200) (hn : p.1.ns.length = p.2.list.length) (hn2 : ∀ x ∈ p.1.ns, x.size <= 40) (ih : ∀ q ∈ p.2.list, RbC q) (na : Option Addr) (nc : Nat) (ka : Option Addr) (kc : Nat) (v : Value) (l : List Nat) (w0 : World) (hl0 : l.length + 1 + (uv p.2.list.length ++ enc p.2 true p.1.ns).length <= 700000000) (B : Nat) (W : World) (ho : Own W B v l) (hB : B <= W.heap.size) (hv : Vl w0 p na nc ka kc) (hb : Below w0.heap.size w0 W) (hB0 : w0.heap.size <= B) :
 Calls Tryz.prog 114 #[v, .agg #[.int .i64 9, .int .i64 p.1.n, .int .i64 p.1.s, .string p.1.t, .slice na p.1.ns.length nc, .slice ka p.2.list.length kc]] W fun e w' => ∃ v' l', e = .returned v' /\ Hid (Ap B W w' v v' l' /\ Wr l (9 :: (uv p.2.list.length ++ enc p.2 true p.1.ns)) l') := by
 obtain ⟨W1, HW1⟩ : ∃ W1, Hid (W.alloc (.cells #[.int .i64 9, .int .i64 p.1.n, .int .i64 p.1.s, .string p.1.t, .slice na p.1.ns.length nc, .slice ka p.2.list.length kc] 41) = W1) := ⟨_, rfl⟩
 have HX : Hid (Blk W1 W.heap.size 41 [.int .i64 9, .int .i64 p.1.n, .int .i64 p.1.s, .string p.1.t, .slice na p.1.ns.length nc, .slice ka p.2.list.length kc]) := by rw [<- HW1.out]; exact blk_new W 41 [.int .i64 9, .int .i64 p.1.n, .int .i64 p.1.s, .string p.1.t, .slice na p.1.ns.length nc, .slice ka p.2.list.length kc]
 have HO1 : Hid (Own W1 B v l) := by rw [<- HW1.out]; exact ho.alloc _
 have hz1 : W1.heap.size = W.heap.size + 1 := by have := HW1.out; subst this; simp
 have HB1 : Hid (Below W.heap.size W W1) := by rw [<- HW1.out]; exact (Below.refl _ _).alloc (Nat.le_refl _) _
 have HN : Hid (v.ownBlock ≠ some W.heap.size) := ho.ne
 have c0 : W1.cell? ⟨W.heap.size, 0, none⟩ = some (.int .i64 9) := HX.out.cell 0
 have HO : Hid (Own W B v l) := ho
 have HV : Hid (Vl w0 p na nc ka kc) := hv
 have HI : Hid (∀ q ∈ p.2.list, RbC q) := ih
 have HBw : Hid (Below w0.heap.size w0 W) := hb
 have HN1 : Hid (p.1.ns.length = p.2.list.length) := hn
 have HN2 : Hid (∀ x ∈ p.1.ns, x.size <= 40) := hn2
 have HT : Hid (l.length + 1 + (uv p.2.list.length ++ enc p.2 true p.1.ns).length <= 700000000) := hl0
 have hl : l.length <= 700000000 := by omega
 clear ho hv ih hb hl0 hn hn2
 go_enter Tryz.func114, Tryz.ntmps114
 go_wp2_with (at_builtin; go_must (generalize hWW : World.alloc W _ = W9; obtain rfl : W1 = W9 := (by rw [<- hWW, <- HW1.out]); clear hWW HW1; refine ap_bytes rfl (.tmp 6) (.tmp 10) rfl B v l rfl (HO1.out.alloc _) _ _ _ [9] rfl rfl (byt_at W1 [9] _ hz1) (by simp) (by simp; omega) (by simp; omega) ?_))
 intro v1 w1 A1
 have HA : Hid (Ap B W1 w1 v v1 (l ++ [9])) := Ap.after ((Below.refl _ _).alloc (Nat.le_refl _) _) A1
 clear A1 c0
 have hb1 : B <= w1.heap.size := by have := HA.out.gr.size; omega
 have HX1 : Hid (Blk w1 W.heap.size 41 [.int .i64 9, .int .i64 p.1.n, .int .i64 p.1.s, .string p.1.t, .slice na p.1.ns.length nc, .slice ka p.2.list.length kc]) := HA.out.blk HX.out HN.out
 have HNE : Hid (v1.ownBlock ≠ some W.heap.size) := fun e => by
  rcases HA.out.ob _ e with h | h
  . exact HN.out h
  . omega
 have HAW : Hid (Ap B W w1 v v1 (l ++ [9])) := Ap.after HB1.out HA.out
 clear HA HX HO1 HB1 hz1
 have c0 : w1.cell? ⟨W.heap.size, 0, none⟩ = some (.int .i64 9) := HX1.out.cell 0
 have c5 : w1.cell? ⟨W.heap.size, 5, none⟩ = some (.slice ka p.2.list.length kc) := HX1.out.cell 5
 have K2 := uvr_any p.2.list.length (by omega) w1
 have h10 := uv_ten p.2.list.length (by omega)
 go_wp2_with fail
 refine K2.mono ?_
 rintro e w3 ⟨r, rfl, o3, b3⟩
 obtain ⟨ax, cx, rfl, hby, hnil, _⟩ := o3.byt
 have hs3 := b3.size
 have HB3 : Hid (Below w1.heap.size w1 w3) := b3
 have HY : Hid (Byt w3 ax (uv p.2.list.length)) := hby
 have HO3 : Hid (Own w3 B v1 (l ++ [9])) := HAW.out.own.below b3
 clear o3 b3 K2 hby c0 c5
 go_wp2_with (at_builtin; go_must (refine ap_bytes rfl (.tmp 62) (.tmp 67) rfl B v1 (l ++ [9]) rfl HO3.out ax _ cx (uv p.2.list.length) rfl rfl HY.out hnil (by simp; omega) (by omega) ?_))
 intro v4 w4 A4
 have A4 : Ap B w3 w4 v1 v4 ((l ++ [9]) ++ uv p.2.list.length) := by simpa using A4
 have HI0 : Hid (KInv B W w4 v v4 (l ++ [9]) ((l ++ [9]) ++ uv p.2.list.length) [.int .i64 9, .int .i64 p.1.n, .int .i64 p.1.s, .string p.1.t, .slice na p.1.ns.length nc, .slice ka p.2.list.length kc] p.2 true p.1.ns 0 (uv p.2.list.length ++ enc p.2 true p.1.ns)) := by
  refine ⟨HAW.out.trans (Ap.after HB3.out A4), A4.blk (HX1.out.below HB3.out HX1.out.lt) HNE.out, fun e => ?_, ⟨uv p.2.list.length, Wr.all _ _, rfl⟩⟩
  rcases A4.ob _ e with h | h
  . exact HNE.out h
  . have := HX1.out.lt
    omega
 clear A4 HX1 HNE HAW HY HO3 HB3 hnil h10 hs3 hb1 HN
 go_wp2
 go_loopw [0, 5] (fun vb i wr => ∃ (k : Nat) (lk : List Nat), k <= p.2.list.length /\ i = .int .i64 (k : Int) /\ Hid (KInv B W wr v vb (l ++ [9]) lk [.int .i64 9, .int .i64 p.1.n, .int .i64 p.1.s, .string p.1.t, .slice na p.1.ns.length nc, .slice ka p.2.list.length kc] p.2 true p.1.ns k (uv p.2.list.length ++ enc p.2 true p.1.ns))) (fun _ i _ => p.2.list.length - (intOf i).toNat)
 case atStart => exact ⟨0, _, by omega, rfl, HI0.out⟩
 case round =>
  clear HI0
  obtain ⟨k, lk, hk0, rfl, HK⟩ := hrel
  have cb0 : wr.cell? ⟨W.heap.size, 0, none⟩ = some (.int .i64 9) := HK.out.blk.cell 0
  have cb5 : wr.cell? ⟨W.heap.size, 5, none⟩ = some (.slice ka p.2.list.length kc) := HK.out.blk.cell 5
  by_cases hlt : k < p.2.list.length
  case neg =>
   have HF : Hid (Ap B W wr v u0 lk /\ Wr l (9 :: (uv p.2.list.length ++ enc p.2 true p.1.ns)) lk) := by
    obtain ⟨x, h1, h2⟩ := HK.out.wr
    rw [Fo.drop_end _ _ (by omega)] at h2
    simp only [enc, List.append_nil] at h2
    rw [h2]
    exact ⟨HK.out.ap, (Wr.all l [9]).trans h1⟩
   go_wp2
   go_ret
   exact ⟨_, lk, rfl, HF.out⟩
  have HBr : Hid (Below w0.heap.size w0 wr) := HK.out.ap.below HO.out HBw.out HBw.out.size hB0
  obtain ⟨q, b, o, na', nc', ka', kc', hq, rfl, hnd, hvl⟩ := HV.out.kid (Below.refl _ _) (k := k) hlt
  have HQq : Hid (p.2.list[k]? = some q) := hq
  have HQ : Hid (RbC q) := HI.out q (List.mem_of_getElem? hq)
  have HVq : Hid (Vl w0 q na' nc' ka' kc') := hvl
  have HND := hnd
  have hBr : B <= wr.heap.size := by have := HK.out.ap.gr.size; omega
  clear hnd hvl hq
  obtain ⟨nm, hnm⟩ : ∃ nm, p.1.ns[k]? = some nm := ⟨_, List.getElem?_eq_getElem (by rw [HN1.out]; exact hlt)⟩
  have hns : nm.size <= 40 := HN2.out nm (List.mem_of_getElem? hnm)
  have HD : Hid ((p.1.ns.drop k).headD ⟨#[]⟩ = nm) := by
   show _ = _
   have := List.getElem?_eq_some_iff.1 hnm
   obtain ⟨h1, h2⟩ := this
   rw [List.drop_eq_getElem_cons h1, h2]
   rfl
  have HLn : Hid (lk.length + (txB nm).length + (encV q).length <= 700000000) := by
   have h1 := HK.out.len
   have h2 := HT.out
   have h3 := congrArg List.length (enc_drop (b := true) (ns := p.1.ns) HQq.out)
   simp only [if_true] at h3
   rw [HD.out] at h3
   simp only [List.length_append, List.length_cons, List.length_nil] at h3 h1 h2
   show _ <= _
   omega
  have hlk : lk.length <= 700000000 := by have := HLn.out; omega
  have KT := rpTx u0 lk nm B wr HK.out.ap.own hBr (by omega)
  rcases HV.out.nms with hem | ⟨bn, on, hna, hc⟩
  . rw [hem] at hnm; simp at hnm
  have hcn : wr.cell? ⟨bn, on + k, none⟩ = some (.string nm) := by
   have := hc k nm hnm
   rw [<- this]
   exact HBr.out.cell (p := ⟨bn, on + k, none⟩) (cell_lt this)
  have cb4 : wr.cell? ⟨W.heap.size, 4, none⟩ = some (.slice (some ⟨bn, on, none⟩) p.1.ns.length nc) := by
   rw [<- hna]
   exact HK.out.blk.cell 4
  have hkn : k < p.1.ns.length := by rw [HN1.out]; exact hlt
  clear hc hnm hna
  go_wp2_with fail
  refine KT.mono ?_
  rintro e w8 ⟨v8, rfl, A8⟩
  have HA8 : Hid (Ap B wr w8 u0 v8 (lk ++ txB nm)) := A8
  have HB8 : Hid (Below w0.heap.size w0 w8) := A8.below HK.out.ap.own HBr.out HBr.out.size hB0
  have cc5 : w8.cell? ⟨W.heap.size, 5, none⟩ = some (.slice (some ⟨b, o, none⟩) p.2.list.length kc) := (A8.blk HK.out.blk HK.out.ne).cell 5
  obtain ⟨d0, d1, d2, d3, d4, d5⟩ := HND.below HB8.out
  have KQ := HQ.out na' nc' ka' kc' v8 (lk ++ txB nm) B w0 w8 HVq.out HB8.out hB0 (Nat.le_trans hBr A8.gr.size) A8.own (by rw [List.length_append]; exact HLn.out)
  clear A8 KT hcn cb4 cb0 cb5 HND
  go_wp2_with fail
  refine KQ.mono ?_
  rintro e w9 ⟨v9, l9, rfl, H9⟩
  have HK2 : Hid (KInv B W w9 v v9 (l ++ [9]) l9 [.int .i64 9, .int .i64 p.1.n, .int .i64 p.1.s, .string p.1.t, .slice na p.1.ns.length nc, .slice (some ⟨b, o, none⟩) p.2.list.length kc] p.2 true p.1.ns (k + 1) (uv p.2.list.length ++ enc p.2 true p.1.ns)) := HK.out.step HQq.out (Below.refl _ _) (HA8.out.trans H9.out.1) (by
   simp only [if_true]
   rw [HD.out]
   exact (Wr.all lk (txB nm)).trans H9.out.2)
  clear KQ H9 HK d0 d1 d2 d3 d4 d5 cc5 HA8
  go_wp2
  go_roundw
  case rel => exact ⟨k + 1, l9, by omega, by go_num, HK2.out⟩
  case measure => simp [intOf]; omega
theorem rb_step (p : Vt) (hw : WfV p) (hc : chk0V p = 0) (ih : ∀ q ∈ p.2.list, RbC q) : RbC p := by
 intro na nc ka kc v l B w0 W hv hb hB0 hB ho hlen
 have hl : l.length <= 700000000 := by omega
 obtain ⟨hown, hkid⟩ := own_of0 hc
 obtain ⟨hf, ht, hkl, hnm⟩ := own_fine hown
 have fin : ∀ {w' : World} {e : Ending} (x : List Nat), x = encV p -> (∃ v' l', e = .returned v' /\ Hid (Ap B W w' v v' l' /\ Wr l x l')) -> ∃ v' l', e = .returned v' /\ Hid (Ap B W w' v v' l' /\ Wr l (encV p) l') := by
  rintro w' e x rfl h
  exact h
 have enil : p.2 = .nil -> encV p = headB p.1 0 := fun h => by unfold encV; rw [h]; simp [enc, Fo.list]
 unfold formed at hf
 split at hf
 . next h =>
   obtain ⟨a1, a2, a3, a4, a5⟩ := leaf_of hf (by decide) (by decide)
   rw [h]
   exact (rb_1 p.1.n p.1.s p.1.t na p.1.ns.length nc ka p.2.list.length kc v l hl B W ho hB).mono fun e w' H => fin _ (by rw [enil a2, headB, bodyB, h]; rfl) H
 split at hf
 . next _ h =>
   rw [Bool.and_eq_true] at hf
   obtain ⟨a1, a2, a3, a4, a5⟩ := leaf_of hf.1 (by decide) (by decide)
   have hn : p.1.n = 0 ∨ p.1.n = 1 := by simpa using hf.2
   rw [h, show p.1.n = (p.1.n.toNat : Int) by omega]
   exact (rb_2 p.1.s p.1.t na p.1.ns.length nc ka p.2.list.length kc v l hl p.1.n.toNat (by omega) B W ho hB).mono fun e w' H => fin _ (by rw [enil a2, headB, bodyB, h]; rfl) H
 split at hf
 . next _ _ h =>
   obtain ⟨a1, a2, a3, a4, a5⟩ := leaf_of hf (by decide) (by decide)
   rw [h]
   exact (rb_3 p.1.n p.1.s p.1.t na p.1.ns.length nc ka p.2.list.length kc v l hl hw.1.n0 hw.1.n1 B W ho hB).mono fun e w' H => fin _ (by rw [enil a2, headB, bodyB, h]; rfl) H
 split at hf
 . next _ _ _ h =>
   simp only [Bool.and_eq_true, decide_eq_true_eq] at hf
   obtain ⟨⟨⟨b1, b2⟩, b3⟩, b4⟩ := hf
   obtain ⟨a1, a2, a3, a4, a5⟩ := leaf_of b1 (by decide) (by decide)
   obtain ⟨s, hs⟩ : ∃ s : Nat, p.1.s = s := ⟨p.1.s.toNat, by omega⟩
   rw [h, hs]
   exact (rb_4 p.1.n p.1.t na p.1.ns.length nc ka p.2.list.length kc v l hl hw.1.n0 hw.1.n1 s (by omega) B W ho hB).mono fun e w' H => fin _ (by rw [enil a2, headB, bodyB, h, hs]; rfl) H
 split at hf
 . next _ _ _ _ h =>
   simp only [Bool.and_eq_true, decide_eq_true_eq] at hf
   obtain ⟨⟨b1, b2⟩, b3⟩ := hf
   obtain ⟨a1, a2, a3, a4, a5⟩ := leaf_of b1 (by decide) (by decide)
   rw [h, show p.1.n = (p.1.n.toNat : Int) by omega]
   exact (rb_5 p.1.s p.1.t na p.1.ns.length nc ka p.2.list.length kc v l hl p.1.n.toNat (by omega) B W ho hB).mono fun e w' H => fin _ (by rw [enil a2, headB, bodyB, h]; rfl) H
 split at hf
 . next _ _ _ _ _ h =>
   obtain ⟨a1, a2, a3, a4, a5⟩ := leaf_of hf (by decide) (by decide)
   rw [h]
   exact (rb_6 p.1.n p.1.s p.1.t na p.1.ns.length nc ka p.2.list.length kc v l hl ht B W ho hB).mono fun e w' H => fin _ (by rw [enil a2, headB, bodyB, h]; rfl) H
 split at hf
 . next _ _ _ _ _ _ h =>
   obtain ⟨a1, a2, a3, a4, a5⟩ := leaf_of hf (by decide) (by decide)
   rw [h]
   exact (rb_7 p.1.n p.1.s p.1.t na p.1.ns.length nc ka p.2.list.length kc v l hl ht B W ho hB).mono fun e w' H => fin _ (by rw [enil a2, headB, bodyB, h]; rfl) H
 split at hf
 . next _ _ _ _ _ _ _ h =>
   have e : encV p = 8 :: (uv p.2.list.length ++ enc p.2 false p.1.ns) := by unfold encV; rw [headB, bodyB, h]; rfl
   rw [e] at hlen ⊢
   rw [h]
   exact rb_8 p hkl ih na nc ka kc v l w0 (by simp only [List.length_append, List.length_cons, List.length_nil] at hlen ⊢; omega) B W ho hB hv hb hB0
 split at hf
 . next _ _ _ _ _ _ _ _ h =>
   have e : encV p = 9 :: (uv p.2.list.length ++ enc p.2 true p.1.ns) := by unfold encV; rw [headB, bodyB, h]; rfl
   rw [e] at hlen ⊢
   rw [h]
   obtain ⟨n1, n2⟩ := names_len (hnm h)
   exact rb_9 p hkl n1 n2 ih na nc ka kc v l w0 (by simp only [List.length_append, List.length_cons, List.length_nil] at hlen ⊢; omega) B W ho hB hv hb hB0
 . cases hf
theorem rb_any : ∀ (N : Nat) (p : Vt), wt p <= N -> WfV p -> chk0V p = 0 -> RbC p := by
 intro N
 induction N with
 | zero => intro p hp; exfalso; unfold wt at hp; omega
 | succ N ih =>
   intro p hp hw hc
   exact rb_step p hw hc fun q hq => ih q (by have := wt_kid hq; omega) (hw.kid hq) (chk0_mem (own_of0 hc).2 hq)
end Go.Proofs.YtpfiejmhnkcjbaaGreatDoor
