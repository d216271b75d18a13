/-
  The document's own Hash of a value (Vh, at a block's seat). · Entries whose Data are gone: over lists, no program is named. · block.Redact.
-/
import Derived.Test.YtlefdnjokppibaaGreatDoorVG23x
import Derived.Test.YtlefdnjokppibaaGreatDoorVG34x
import Derived.Test.YtlefdnjokppibaaGreatDoorVG36x
import Derived.Test.YtlefdnjokppibaaGreatDoorVG13x
import Derived.Test.YtlefdnjokppibaaGreatDoorVG27x
import Derived.Test.YtlefdnjokppibaaGreatDoorVG25x
namespace Go.Proofs.YtlefdnjokppibaaGreatDoor.Sh
open Go.RowKit Mt
set_option linter.unusedVariables false
set_option linter.unusedSimpArgs false
theorem res_two {P : Program} {w : World} {fn : Func} {p q : Tmp} {ty : TypeId} (h : fn.results = #[.cell p ty, .tmp q]) (tmps : Array Value) (g : Nat) (t : TypeId) (cs : List Value) (d : TypeDesc)
    (hp : tmps.getD p undef = .pointer (some ⟨g, 0, none⟩)) (hg : Blk w g t cs) (hu : P.underlying ty = some d) (hd : d.isRow = true) (hi : (P.info? ty).map (·.size) = some cs.length) :
    (results fn tmps).run P w = .ok (.tuple #[.agg cs.toArray, tmps.getD q undef]) w := by
  have hp' : tmps[p]?.getD undef = .pointer (some ⟨g, 0, none⟩) := by simpa using hp
  simp [results, h, hp', asAddr, run_loadVar_row w g t ty cs.toArray (0, 0) d hg hu (by cases d <;> simp_all [TypeDesc.isRow]) (by simpa using hi)]
theorem z_built (a : Act) : Tryz.prog.built 23 ((#[] : Array (Nat × Operand)).map fun p => (p.1, a.eval p.2)).toList = some (nums .u8 zr).toArray := by kernel_rfl
theorem enc_of2 {p : Vt} (ep : encE p = 0) : Oct (encB p) ∧ (encB p).length ≤ 65536 := by
  have e1 : chkV p 1 = 0 := by
    unfold encE at ep
    split at ep
    · next h => exact absurd ep h
    · next h => simpa using h
  have e2 : ¬ 65536 < (encV p).length := by
    unfold encE at ep
    rw [if_neg (by simpa using e1)] at ep
    intro h
    rw [if_pos h] at ep
    cases ep
  rw [(encE_yes e1 e2).2]
  exact ⟨encV_oct p (chk1 e1), by omega⟩
/-- What Hash answers. -/
def hshL (p : Vt) : List Nat := if encE p = 0 then D (0 :: encB p) else zr
theorem hsh_len (p : Vt) : (hshL p).length = 32 := by
  unfold hshL
  split
  · exact D_len _
  · rfl
theorem hsh_no {p : Vt} (h : encE p ≠ 0) : hshL p = zr := by unfold hshL; rw [if_neg h]
theorem hsh_yes {p : Vt} (h : encE p = 0) : hshL p = D (0 :: encB p) := by unfold hshL; rw [if_pos h]
set_option maxRecDepth 8000 in
set_option maxHeartbeats 1000000 in
theorem rhash_any (p : Vt) (hw : WfV p) (hws : Go.Proofs.YtlefdnjokppibaaGreatDoor.ws p ≤ 100000) (na : Option Addr) (nc : Nat) (ka : Option Addr) (kc : Nat) (W : World) (hv : Vl W p na nc ka kc) :
    Calls Tryz.prog 59 #[.agg #[.int .i64 p.1.k, .int .i64 p.1.n, .int .i64 p.1.s, .string p.1.t, .slice na p.1.ns.length nc, .slice ka p.2.list.length kc]] W fun e w' => e = .returned (.tuple #[.agg (nums .u8 (hshL p)).toArray, .int .i64 (encE p)]) ∧ Below W.heap.size W w' := by
  obtain ⟨W1, HW1⟩ : ∃ W1, Hid (W.alloc (.cells #[.int .i64 p.1.k, .int .i64 p.1.n, .int .i64 p.1.s, .string p.1.t, .slice na p.1.ns.length nc, .slice ka p.2.list.length kc] 41) = W1) := ⟨_, rfl⟩
  have HX : Hid (Blk W1 W.heap.size 41 (six p.1 na nc ka p.2.list.length kc)) := by rw [← HW1.out]; exact blk_new W 41 (six p.1 na nc ka p.2.list.length kc)
  have HB1 : Hid (Below W.heap.size W W1) := by rw [← HW1.out]; exact (Below.refl _ _).alloc (Nat.le_refl _) _
  have HV : Hid (Vl W p na nc ka kc) := hv
  have KE : Hid (∀ w, Vl w p na nc ka kc → Calls Tryz.prog 60 #[.agg #[.int .i64 p.1.k, .int .i64 p.1.n, .int .i64 p.1.s, .string p.1.t, .slice na p.1.ns.length nc, .slice ka p.2.list.length kc]] w fun e w' => ∃ v', e = .returned (.tuple #[v', .int .i64 (encE p)]) ∧ Hid (Own w' w.heap.size v' (encB p) ∧ Below w.heap.size w w')) := fun w h => rencode_any p hw hws na nc ka kc w h
  have HN : Hid (encE p ≠ 0 → hshL p = zr) := hsh_no
  have HY : Hid (encE p = 0 → hshL p = D (0 :: encB p) ∧ Oct (encB p) ∧ (encB p).length ≤ 65536) := fun h => ⟨hsh_yes h, enc_of2 h⟩
  have HL : Hid ((hshL p).length = 32) := hsh_len p
  generalize encE p = EE at *
  generalize encB p = BB at *
  generalize hshL p = HH at *
  clear hv hw hws
  go_enter Tryz.func59, Tryz.ntmps59
  go_wp2_with (generalize hWW : World.alloc W _ = W9; obtain rfl : W1 = W9 := (by rw [← hWW, ← HW1.out]); clear hWW HW1; refine al_zero rfl 23 rfl (nums .u8 zr) z25 ?_)
  intro g w1 hg1 Bz G1
  have Z1 : Below W1.heap.size W1 w1 := (Below.refl _ _).grown G1 (Nat.le_refl _) (fun k e => by cases e)
  have HZ : Hid (Below W.heap.size W w1) := HB1.out.trans (Z1.mono HB1.out.size)
  have HX1 : Hid (Blk w1 W.heap.size 41 (six p.1 na nc ka p.2.list.length kc)) := HX.out.below Z1 HX.out.lt
  have HG : Hid (Blk w1 g 23 (nums .u8 zr)) := Bz
  have hgW : W.heap.size ≤ g := Nat.le_trans HB1.out.size hg1
  clear Z1 G1 Bz HX HB1 hg1
  have c0 : w1.cell? ⟨W.heap.size, 0, none⟩ = some (.int .i64 p.1.k) := HX1.out.cell 0
  have c1 : w1.cell? ⟨W.heap.size, 1, none⟩ = some (.int .i64 p.1.n) := HX1.out.cell 1
  have c2 : w1.cell? ⟨W.heap.size, 2, none⟩ = some (.int .i64 p.1.s) := HX1.out.cell 2
  have c3 : w1.cell? ⟨W.heap.size, 3, none⟩ = some (.string p.1.t) := HX1.out.cell 3
  have c4 : w1.cell? ⟨W.heap.size, 4, none⟩ = some (.slice na p.1.ns.length nc) := HX1.out.cell 4
  have c5 : w1.cell? ⟨W.heap.size, 5, none⟩ = some (.slice ka p.2.list.length kc) := HX1.out.cell 5
  have K := KE.out w1 (HV.out.below HZ.out)
  go_wp2_with fail
  refine K.mono ?_
  clear K KE c0 c1 c2 c3 c4 c5 HX1
  rintro e w2 ⟨v2, rfl, H2⟩
  have HG2 : Hid (Blk w2 g 23 (nums .u8 zr)) := HG.out.below H2.out.2 HG.out.lt
  have HZ2 : Hid (Below W.heap.size W w2) := HZ.out.trans (H2.out.2.mono HZ.out.size)
  obtain ⟨ax, c, rfl, hby, hnl, hlc, hcm⟩ := H2.out.1.byt
  have HBy : Hid (Byt w2 ax BB) := hby
  clear H2 HG HZ hby
  have IZ : Hid ((Tryz.prog.info? 23).map (·.size) = some (nums .u8 zr).length) := by show _ = _; rw [nums_length]; exact s25
  by_cases hE : EE = 0
  case neg =>
    have e1 := HN.out hE
    subst e1
    have hEb : (EE != 0) = true := by simpa using hE
    go_wp2_with (first | (refine bd_row rfl 23 #[] rfl (nums .u8 zr) (z_built _) ?_) | (refine st_all rfl 23 (.tmp 2) (.tmp 13) rfl g 23 (nums .u8 zr) (nums .u8 zr) rfl rfl HG2.out rfl IZ.out (nums_one _ _) ?_))
    intro w3 B3 G3
    go_wp2
    (try simp only [Exit.inBlock, Exit.then])
    refine bodyPost_ret (res_two rfl _ g 23 _ _ rfl B3 Tryz.underlying23 rfl IZ.out) rfl ⟨rfl, HZ2.out.grown G3 HZ2.out.size (fun r e => by obtain rfl := Option.some.inj e; exact hgW)⟩
  subst hE
  obtain ⟨e1, ho, hlen⟩ := HY.out rfl
  have HOc : Hid (Oct BB) := ho
  have KL := rleaf_any ax c BB (by omega) w2 HBy.out hnl HOc.out
  rw [← e1] at KL
  have ID : Hid ((Tryz.prog.info? 23).map (·.size) = some (nums .u8 HH).length) := by show _ = _; rw [nums_length, HL.out]; exact s25
  have ND : Hid ((nums .u8 HH).length = (nums .u8 zr).length) := by show _ = _; rw [nums_length, nums_length, HL.out]; rfl
  clear HN HY ho e1 HBy HOc
  go_wp2_with fail
  refine KL.mono ?_
  rintro e w3 ⟨rfl, z3⟩
  have HG3 : Hid (Blk w3 g 23 (nums .u8 zr)) := HG2.out.below z3 HG2.out.lt
  have HZ3 : Hid (Below W.heap.size W w3) := HZ2.out.trans (z3.mono HZ2.out.size)
  clear KL z3 HG2 HZ2
  go_wp2_with (refine st_all rfl 23 (.tmp 2) (.tmp 16) rfl g 23 (nums .u8 zr) (nums .u8 HH) rfl rfl HG3.out ND.out ID.out (nums_one _ _) ?_)
  intro w4 B4 G4
  go_wp2
  (try simp only [Exit.inBlock, Exit.then])
  refine bodyPost_ret (res_two rfl _ g 23 _ _ rfl B4 Tryz.underlying23 rfl ID.out) rfl ⟨rfl, HZ3.out.grown G4 HZ3.out.size (fun r e => by obtain rfl := Option.some.inj e; exact hgW)⟩
end Go.Proofs.YtlefdnjokppibaaGreatDoor.Sh
namespace Go.Proofs.YtlefdnjokppibaaGreatDoor.Sh
open Go.RowKit Math Mt
set_option linter.unusedVariables false
/-- A Revision without its Data. -/
def gonE (e : En) : En := if e.k = 2 then { e with g := true, v := nv } else e
theorem gon_k (e : En) : (gonE e).k = e.k := by unfold gonE; split <;> rfl
theorem gon_2 {e : En} (h : e.k = 2) : gonE e = { e with g := true, v := nv } := by unfold gonE; rw [if_pos h]
theorem gon_n {e : En} (h : e.k ≠ 2) : gonE e = e := by unfold gonE; rw [if_neg h]
theorem gon_ent (e : En) : entB (gonE e) = entB e := by
  by_cases h : e.k = 2
  · rw [gon_2 h]; rfl
  · rw [gon_n h]
theorem gon_dat (e : En) : datL (gonE e) = if e.k = 2 then [] else datL e := by
  by_cases h : e.k = 2
  · rw [gon_2 h, if_pos h]; unfold datL; rw [if_neg (by simp)]
  · rw [gon_n h, if_neg h]
theorem gon_itm (e : En) : itmB true (gonE e) = itmB false e := by
  unfold itmB
  rw [gon_ent, gon_k, gon_dat]
  by_cases h : e.k = 2
  · rw [if_pos h]; unfold tail; rw [if_pos h, if_pos (.inr rfl), if_pos h, if_pos (.inl rfl)]
  · unfold tail; rw [if_neg h, if_neg h]
theorem gon_w {e : En} (h : EnW e) : EnW (gonE e) := by
  by_cases c : e.k = 2
  · rw [gon_2 c]; exact ⟨h.k, h.t, h.tb, h.dc, h.vr, wf_lf 0 0 0 em (by omega) (by omega) (by omega) (by decide), h.h, h.ab, h.ae⟩
  · rw [gon_n c]; exact h
theorem gon_may {e : En} (h : mayE e = 0) : mayE (gonE e) = 0 := by
  by_cases c : e.k = 2
  · refine may_plain ?_ (.inr (by rw [gon_2 c]))
    obtain ⟨s, h1, h2, h3⟩ := form_iff.1 (may_form h)
    refine form_iff.2 ⟨s, by rw [gon_k]; exact h1, ?_, ?_⟩
    · rw [gon_2 c]; exact ⟨h2.t, h2.tb, h2.dc, h2.vr, h2.ab, h2.ae⟩
    · rw [gon_2 c]
      unfold restB
      show (if e.k = 2 then !true || nvB nv else _) = true
      rw [if_pos c]; rfl
  · rw [gon_n c]; exact h
theorem itm_le (e : En) : (itmB false e).length ≤ (itmB true e).length := by
  unfold itmB tail
  rw [List.length_append, List.length_append]
  by_cases h : e.k = 2
  · rw [if_pos h, if_pos h, if_pos (Or.inl rfl)]
    split
    · exact Nat.le_refl _
    · simp only [List.length_append, List.length_cons, List.length_nil]; omega
  · rw [if_neg h, if_neg h]; exact Nat.le_refl _
theorem fst_of : ∀ {l : List En}, (∀ e ∈ l, mayE e = 0) → fstE l = 0
  | [], _ => rfl
  | x :: r, h => by
    unfold fstE
    rw [if_neg (by simpa using h x (by simp))]
    exact fst_of fun e he => h e (by simp [he])
/-- A block in which one entry is gone. -/
def redB (b : Bk) (i : Nat) (e : En) : Bk := { b with es := b.es.set i (gonE e) }
theorem mem_set {l : List En} {i : Nat} {x y : En} (h : y ∈ l.set i x) : y = x ∨ y ∈ l := (List.mem_or_eq_of_mem_set h).symm
theorem flat_set_le (f : En → List Nat) : ∀ (l : List En) (i : Nat) (e x : En), l[i]? = some e → (f x).length ≤ (f e).length → ((l.set i x).flatMap f).length ≤ (l.flatMap f).length
  | [], i, e, x, h, _ => by simp at h
  | y :: r, 0, e, x, h, hl => by
    obtain rfl : y = e := by simpa using h
    simp only [List.set_cons_zero, List.flatMap_cons, List.length_append]
    omega
  | y :: r, i + 1, e, x, h, hl => by
    have := flat_set_le f r i e x (by simpa using h) hl
    simp only [List.set_cons_succ, List.flatMap_cons, List.length_append]
    omega
theorem red_chk {b : Bk} (h : chkB b = 0) {i : Nat} {e : En} (he : b.es[i]? = some e) : chkB (redB b i e) = 0 := by
  obtain ⟨h1, h2, h3⟩ := chk_zero h
  refine chk_yes (by simpa [redB] using h1) (fst_of fun x hx => ?_) ?_
  · rcases mem_set hx with rfl | hx
    · exact gon_may (fst_all h2 e (List.mem_of_getElem? he))
    · exact fst_all h2 x hx
  · have h4 := flat_set_le (itmB true) b.es i e (gonE e) he (by rw [gon_itm]; exact itm_le e)
    unfold blkB at h3 ⊢
    have e1 : hedB (redB b i e) = hedB b := rfl
    have e2 : (redB b i e).es.length = b.es.length := by simp [redB]
    rw [e1, e2]
    simp only [List.length_append] at h3 ⊢
    show ¬ 262144 < _ + _ + ((b.es.set i (gonE e)).flatMap (itmB true)).length
    omega
theorem red_bw {b : Bk} (h : BkW b) {i : Nat} {e : En} (he : b.es[i]? = some e) : BkW (redB b i e) := ⟨h.ix, h.tm, h.tx, h.pv, fun x hx => by
  rcases mem_set hx with rfl | hx
  · exact gon_w (h.es e (List.mem_of_getElem? he))
  · exact h.es x hx, by simpa [redB] using h.len⟩
end Go.Proofs.YtlefdnjokppibaaGreatDoor.Sh
namespace Go.Proofs.YtlefdnjokppibaaGreatDoor.Sh
open Go Go.RowKit Math Mt
set_option linter.unusedVariables false
set_option linter.unusedSimpArgs false
def redK (b : Bk) (k : Nat) : Int × Bk := match b.es[k]? with
  | none => (7, noB)
  | some e => if e.k ≠ 2 then (7, noB) else if e.g = true then (23, noB) else (0, redB b k e)
/-- What Redact answers. -/
def redR (b : Bk) (i : Int) : Int × Bk := if chkB b ≠ 0 then (chkB b, noB) else if i < 0 then (7, noB) else redK b i.toNat
theorem red_bad {b : Bk} {i : Int} (h : chkB b ≠ 0) : redR b i = (chkB b, noB) := by unfold redR; rw [if_pos h]
theorem red_low {b : Bk} {i : Int} (h : chkB b = 0) (hi : i < 0) : redR b i = (7, noB) := by unfold redR; rw [if_neg (by omega), if_pos hi]
theorem red_nat {b : Bk} {k : Nat} (h : chkB b = 0) : redR b (k : Int) = redK b k := by unfold redR; rw [if_neg (by omega), if_neg (by omega)]; rfl
theorem red_far {b : Bk} {k : Nat} (h : chkB b = 0) (hk : ¬ k < b.es.length) : redR b (k : Int) = (7, noB) := by rw [red_nat h]; unfold redK; rw [List.getElem?_eq_none (by omega)]
theorem red_kind {b : Bk} {k : Nat} {e : En} (h : chkB b = 0) (he : b.es[k]? = some e) (hk : e.k ≠ 2) : redR b (k : Int) = (7, noB) := by rw [red_nat h]; unfold redK; rw [he]; simp only; rw [if_pos hk]
theorem red_gone {b : Bk} {k : Nat} {e : En} (h : chkB b = 0) (he : b.es[k]? = some e) (hk : e.k = 2) (hg : e.g = true) : redR b (k : Int) = (23, noB) := by rw [red_nat h]; unfold redK; rw [he]; simp only; rw [if_neg (by omega), if_pos hg]
theorem red_ok {b : Bk} {k : Nat} {e : En} (h : chkB b = 0) (he : b.es[k]? = some e) (hk : e.k = 2) (hg : e.g = false) : redR b (k : Int) = (0, redB b k e) := by rw [red_nat h]; unfold redK; rw [he]; simp only; rw [if_neg (by omega), if_neg (by rw [hg]; decide)]
theorem bC_red (b : Bk) (k : Nat) (e : En) (a : Option Addr) (c : Nat) : bC (redB b k e) a c = bC b a c := by unfold bC redB; simp
theorem set_mid (p m q : List Value) (n j : Nat) (v : Value) (hp : p.length = n) (hj : j < m.length) : (p ++ (m ++ q)).set (n + j) v = p ++ (m.set j v ++ q) := by
  subst hp
  rw [List.set_append_right _ _ (by omega), Nat.add_sub_cancel_left, List.set_append_left _ _ hj]
theorem eC_setg {e : En} (hl : e.h.length = 32) (na : Option Addr) (nc : Nat) (ka : Option Addr) (kc : Nat) : (eC e na nc ka kc).set 43 (.bool true) = eC { e with g := true } na nc ka kc := by
  unfold eC
  rw [List.set_append_right _ _ (by simp), List.set_append_right _ _ (by simp [six]), List.set_append_right _ _ (by simp [six, nums_length, hl])]
  simp [six, nums_length, hl]
theorem s_bool : (Tryz.prog.info? 4).map (·.size) = some 1 := by kernel_rfl
theorem map_set {is1 is2 : List It} {i i' : It} {es : List En} {k : Nat} (h : (is1 ++ i :: is2).map (·.e) = es) (hk : is1.length = k) : (is1 ++ i' :: is2).map (·.e) = es.set k i'.e := by
  subst h hk
  simp
theorem its_split {is : List It} {es : List En} {k : Nat} {e : En} (h : is.map (·.e) = es) (he : es[k]? = some e) : ∃ is1 na nc ka kc is2, is = is1 ++ (⟨e, na, nc, ka, kc⟩ : It) :: is2 ∧ is1.length = k := by
  subst h
  rw [List.getElem?_map] at he
  obtain ⟨i, hi, rfl⟩ := Option.map_eq_some_iff.1 he
  obtain ⟨h1, h2⟩ := List.getElem?_eq_some_iff.1 hi
  refine ⟨is.take k, i.na, i.nc, i.ka, i.kc, is.drop (k + 1), ?_, by rw [List.length_take]; omega⟩
  conv => lhs; rw [← List.take_append_drop k is, List.drop_eq_getElem_cons h1, h2]
/-- What both Redacts do behind their calls. -/
def RdR (b : Bk) (i : Int) (w : World) (e : Ending) (w' : World) : Prop := ∃ d E a' c', e = .returned (.tuple #[.agg (bC d a' c').toArray, .int .i64 E]) ∧ Hid (redR b i = (E, d) ∧ EsM w' a' d.es ∧ Below w.heap.size w w')
set_option maxHeartbeats 1000000 in
set_option maxRecDepth 8000 in
theorem bred_any (b : Bk) (hb : BkW b) (hn : b.es.length ≤ 100000) (hlk : ∀ e ∈ b.es, Lk e.v) (hws : ∀ e ∈ b.es, Go.Proofs.YtlefdnjokppibaaGreatDoor.ws e.v ≤ 100000) (i : Int) (a : Option Addr) (c : Nat) (w : World) (hE : EsM w a b.es) :
    Calls Tryz.prog 23 #[.agg (bC b a c).toArray, .int .i64 i] w fun e w' => RdR b i w e w' := by
  have HL : Hid (b.pv.length = 32) := hb.pv.1
  have HB : Hid (BkW b) := hb
  have HE : Hid (EsM w a b.es) := hE
  have KC : Hid (∀ V, EsM V a b.es → Calls Tryz.prog 10 #[.agg (bC b a c).toArray] V fun e w' => e = .returned (.int .i64 (chkB b)) ∧ Hid (Below V.heap.size V w')) := fun V h => (check_any b hb hlk a c V h).mono (by rintro e w' ⟨rfl, q⟩; exact ⟨rfl, q⟩)
  have KD : Hid (∀ V, EsM V a b.es → Calls Tryz.prog 48 #[.agg (bC b a c).toArray] V fun e w' => ∃ a' c', e = .returned (.agg (bC b a' c').toArray) ∧ Hid ((∃ is, RowE V.heap.size w' (.slice a' b.es.length c') is ∧ is.map (·.e) = b.es) ∧ Below V.heap.size V w')) := fun V h => bcopy_any b hb hn hws a c V h
  clear hb hE hlk hws
  go_enter Tryz.func23, Tryz.ntmps23
  go_wp2_with (refine al_box rfl 26 (.tmp 0) rfl (bC b a c) rfl ?_)
  intro gb w1 l1 B1 G0
  have Z := (Below.refl w.heap.size w).grown G0 (Nat.le_refl _) (by simp)
  clear G0
  go_wp2_with (refine al_zero rfl 26 rfl (bC noB none 0) zBl ?_)
  intro g4 w2 l2 B2 G0
  have hg4 : Hid (w.heap.size ≤ g4) := Nat.le_trans Z.size l2
  have HZ : Hid (Below w.heap.size w w2) := Z.grown G0 Z.size (by simp)
  have HB1 : Hid (Blk w2 gb 26 (bC b a c)) := B1.kept G0 (by simp)
  have HB4 : Hid (Blk w2 g4 26 (bC noB none 0)) := B2
  clear G0 B1 B2 Z l1 l2
  have K := KC.out w2 (HE.out.below HZ.out)
  obtain ⟨R, hR⟩ : ∃ R, Hid (chkB b = R) := ⟨_, rfl⟩
  rw [hR.out] at K
  go_wp2_with (refine ld_w (by rfl) 26 (.tmp 2) rfl gb 0 rfl (bC b a c) _ HB1.out.all Tryz.underlying26 rfl (sB HL.out _ _) ?_)
  refine K.mono ?_
  clear K KC
  rintro e w3 ⟨rfl, H⟩
  have HZ : Hid (Below w.heap.size w w3) := HZ.out.trans (H.out.mono HZ.out.size)
  have HB1 : Hid (Blk w3 gb 26 (bC b a c)) := HB1.out.below H.out HB1.out.lt
  have HB4 : Hid (Blk w3 g4 26 (bC noB none 0)) := HB4.out.below H.out HB4.out.lt
  clear H
  by_cases hR0 : R = 0
  case neg =>
    have HRd : Hid (redR b i = (R, noB)) := by have := red_bad (i := i) (show chkB b ≠ 0 by rw [hR.out]; exact hR0); rw [hR.out] at this; exact this
    go_wp2_with (first | (refine bd_w (by rfl) 26 #[] rfl (bC noB none 0) (bd_blk _) ?_) | (refine st_all rfl 26 (.tmp 4) (.tmp 12) rfl g4 26 (bC noB none 0) (bC noB none 0) rfl rfl HB4.out rfl (sB zr_len _ _) (bC_one _ _ _) ?_))
    intro w4 B4 G4
    have HF : Hid (redR b i = (R, noB) ∧ EsM w4 none noB.es ∧ Below w.heap.size w w4) := ⟨HRd.out, .inl rfl, Sh.grown_below HZ.out G4 HZ.out.size hg4.out⟩
    clear G4 HRd
    go_wp2
    (try simp only [Exit.inBlock, Exit.then])
    refine bodyPost_ret (res_two rfl _ g4 26 _ _ rfl B4 Tryz.underlying26 rfl (sB zr_len _ _)) rfl ⟨noB, R, none, 0, rfl, HF.out⟩
  subst hR0
  have c35 := (bkF_of HL.out HB1.out).es
  by_cases hi : i < 0
  case pos =>
    have HRd : Hid (redR b i = (7, noB)) := red_low hR.out hi
    go_wp2_with (first | (refine bd_w (by rfl) 26 #[] rfl (bC noB none 0) (bd_blk _) ?_) | (refine st_all rfl 26 (.tmp 4) (.tmp 32) rfl g4 26 (bC noB none 0) (bC noB none 0) rfl rfl HB4.out rfl (sB zr_len _ _) (bC_one _ _ _) ?_))
    intro w4 B4 G4
    have HF : Hid (redR b i = (7, noB) ∧ EsM w4 none noB.es ∧ Below w.heap.size w w4) := ⟨HRd.out, .inl rfl, Sh.grown_below HZ.out G4 HZ.out.size hg4.out⟩
    clear G4 HRd
    go_wp2
    (try simp only [Exit.inBlock, Exit.then])
    refine bodyPost_ret (res_two rfl _ g4 26 _ _ rfl B4 Tryz.underlying26 rfl (sB zr_len _ _)) rfl ⟨noB, 7, none, 0, rfl, HF.out⟩
  obtain ⟨k, rfl⟩ : ∃ k : Nat, i = (k : Int) := ⟨i.toNat, by omega⟩
  clear hi
  by_cases hlt : k < b.es.length
  case neg =>
    have HRd : Hid (redR b (k : Int) = (7, noB)) := red_far hR.out hlt
    go_wp2_with (first | (refine bd_w (by rfl) 26 #[] rfl (bC noB none 0) (bd_blk _) ?_) | (refine st_all rfl 26 (.tmp 4) (.tmp 32) rfl g4 26 (bC noB none 0) (bC noB none 0) rfl rfl HB4.out rfl (sB zr_len _ _) (bC_one _ _ _) ?_))
    intro w4 B4 G4
    have HF : Hid (redR b (k : Int) = (7, noB) ∧ EsM w4 none noB.es ∧ Below w.heap.size w w4) := ⟨HRd.out, .inl rfl, Sh.grown_below HZ.out G4 HZ.out.size hg4.out⟩
    clear G4 HRd
    go_wp2
    (try simp only [Exit.inBlock, Exit.then])
    refine bodyPost_ret (res_two rfl _ g4 26 _ _ rfl B4 Tryz.underlying26 rfl (sB zr_len _ _)) rfl ⟨noB, 7, none, 0, rfl, HF.out⟩
  obtain ⟨e, he⟩ : ∃ e, b.es[k]? = some e := ⟨_, List.getElem?_eq_getElem hlt⟩
  obtain ⟨bb, oo, na, nc, ka, kc, rfl, hM⟩ := (HE.out.below HZ.out).get he
  have HEW : Hid (EnW e) := HB.out.es e (List.mem_of_getElem? he)
  have HLh : Hid (e.h.length = 32) := HEW.out.h.1
  have HHE : Hid (b.es[k]? = some e) := he
  have ck := (enF_of HLh.out hM.at').k
  have cg := (enF_of HLh.out hM.at').g
  clear hM he
  obtain ⟨ek, hek⟩ : ∃ ek, Hid (e.k = ek) := ⟨_, rfl⟩
  obtain ⟨eg, heg⟩ : ∃ eg, Hid (e.g = eg) := ⟨_, rfl⟩
  rw [hek.out] at ck
  rw [heg.out] at cg
  by_cases hk2 : ek = 2
  case neg =>
    have HRd : Hid (redR b (k : Int) = (7, noB)) := red_kind hR.out HHE.out (by rw [hek.out]; exact hk2)
    have hne : (ek != 2) = true := by rw [bne_iff_ne]; exact hk2
    clear hk2
    go_wp2_with (first | (refine bd_w (by rfl) 26 #[] rfl (bC noB none 0) (bd_blk _) ?_) | (refine st_all rfl 26 (.tmp 4) (.tmp 32) rfl g4 26 (bC noB none 0) (bC noB none 0) rfl rfl HB4.out rfl (sB zr_len _ _) (bC_one _ _ _) ?_))
    intro w4 B4 G4
    have HF : Hid (redR b (k : Int) = (7, noB) ∧ EsM w4 none noB.es ∧ Below w.heap.size w w4) := ⟨HRd.out, .inl rfl, Sh.grown_below HZ.out G4 HZ.out.size hg4.out⟩
    clear G4 HRd
    go_wp2
    (try simp only [Exit.inBlock, Exit.then])
    refine bodyPost_ret (res_two rfl _ g4 26 _ _ rfl B4 Tryz.underlying26 rfl (sB zr_len _ _)) rfl ⟨noB, 7, none, 0, rfl, HF.out⟩
  subst hk2
  cases eg with
  | true =>
    have HRd : Hid (redR b (k : Int) = (23, noB)) := red_gone hR.out HHE.out hek.out heg.out
    go_wp2_with (first | (refine bd_w (by rfl) 26 #[] rfl (bC noB none 0) (bd_blk _) ?_) | (refine st_all rfl 26 (.tmp 4) (.tmp 39) rfl g4 26 (bC noB none 0) (bC noB none 0) rfl rfl HB4.out rfl (sB zr_len _ _) (bC_one _ _ _) ?_))
    intro w4 B4 G4
    have HF : Hid (redR b (k : Int) = (23, noB) ∧ EsM w4 none noB.es ∧ Below w.heap.size w w4) := ⟨HRd.out, .inl rfl, Sh.grown_below HZ.out G4 HZ.out.size hg4.out⟩
    clear G4 HRd
    go_wp2
    (try simp only [Exit.inBlock, Exit.then])
    refine bodyPost_ret (res_two rfl _ g4 26 _ _ rfl B4 Tryz.underlying26 rfl (sB zr_len _ _)) rfl ⟨noB, 23, none, 0, rfl, HF.out⟩
  | false =>
  have HRd : Hid (redR b (k : Int) = (0, redB b k e)) := red_ok hR.out HHE.out hek.out heg.out
  have K := KD.out w3 (HE.out.below HZ.out)
  go_wp2_with (refine ld_w (by rfl) 26 (.tmp 2) rfl gb 0 rfl (bC b (some ⟨bb, oo, none⟩) c) _ HB1.out.all Tryz.underlying26 rfl (sB HL.out _ _) ?_)
  refine K.mono ?_
  clear K KD c35 ck cg
  rintro e' w4 ⟨a', c', rfl, H⟩
  have HZ4 : Hid (Below w.heap.size w w4) := HZ.out.trans (H.out.2.mono HZ.out.size)
  have HB4' : Hid (Blk w4 g4 26 (bC noB none 0)) := HB4.out.below H.out.2 HB4.out.lt
  have hg43 : Hid (g4 < w3.heap.size) := HB4.out.lt
  have HRow : Hid (∃ is, RowE w3.heap.size w4 (.slice a' b.es.length c') is ∧ is.map (·.e) = b.es) := H.out.1
  have HK2 : Hid (e.k = 2) := hek.out
  clear H HB1 HB4 hR hek heg
  go_wp2_with (refine al_zero rfl 26 rfl (bC noB none 0) zBl ?_)
  intro g7 w5 l7 B7 GA
  go_wp2_with (refine st_all rfl 26 (.tmp 7) (.tmp 41) rfl g7 26 (bC noB none 0) (bC b a' c') rfl rfl B7 (by rw [bC_len HL.out, bC_len zr_len]) (sB HL.out _ _) (bC_one _ _ _) ?_)
  intro w6 B7' GB
  have G6 : Below w4.heap.size w4 w6 := below_new GA l7 GB
  obtain ⟨is, R4, hmap⟩ := HRow.out
  have R6 := R4.be G6
  obtain ⟨is1, na1, nc1, ka1, kc1, is2, rfl, hk1⟩ := its_split hmap HHE.out
  obtain ⟨g, sp, hg, hgB, hMg, hgL, hcm, hcn⟩ : ∃ g sp, a' = some ⟨g, 0, none⟩ ∧ Blk w6 g 45 ((is1 ++ (⟨e, na1, nc1, ka1, kc1⟩ : It) :: is2).flatMap itC ++ sp) ∧ w3.heap.size ≤ g ∧ ((is1 ++ (⟨e, na1, nc1, ka1, kc1⟩ : It) :: is2).flatMap itC ++ sp).length = c' * 46 ∧ c' ≤ maxLen ∧ b.es.length ≤ c' := by
    have hl : (is1 ++ (⟨e, na1, nc1, ka1, kc1⟩ : It) :: is2).length = b.es.length := by rw [← hmap, List.length_map]
    have hr := R6.row
    rw [hl] at hr
    obtain ⟨a'', c'', q, h1, h2⟩ := row_en hr
    injection q with e1 _ e3
    subst e1 e3
    rcases h2 with h | ⟨g, sp, q1, q2, q3, q4, q5⟩
    · omega
    · exact ⟨g, sp, q1, q2, q3, q4, q5, h1⟩
  subst hg
  have HR6 : Hid (RowE w3.heap.size w6 (.slice (some ⟨g, 0, none⟩) b.es.length c') (is1 ++ (⟨e, na1, nc1, ka1, kc1⟩ : It) :: is2)) := R6
  have HMp : Hid ((is1 ++ (⟨e, na1, nc1, ka1, kc1⟩ : It) :: is2).map (·.e) = b.es ∧ is1.length = k) := ⟨hmap, hk1⟩
  have e0 : (is1 ++ (⟨e, na1, nc1, ka1, kc1⟩ : It) :: is2).flatMap itC ++ sp = is1.flatMap itC ++ (eC e na1 nc1 ka1 kc1 ++ (is2.flatMap itC ++ sp)) := by simp [itC]
  rw [e0] at hgB hgL
  have HGB : Hid (Blk w6 g 45 (is1.flatMap itC ++ (eC e na1 nc1 ka1 kc1 ++ (is2.flatMap itC ++ sp)))) := hgB
  have HGL : Hid ((is1.flatMap itC ++ (eC e na1 nc1 ka1 kc1 ++ (is2.flatMap itC ++ sp))).length = c' * 46 ∧ c' ≤ maxLen ∧ b.es.length ≤ c' ∧ w3.heap.size ≤ g) := ⟨hgL, hcm, hcn, hMg⟩
  have HISL : Hid ((is1.flatMap itC).length = k * 46) := by
    show _ = _
    rw [its_len is1 (fun i hi => R6.ew i (by simp [hi])), hk1]
  have HZ6 : Hid (Below w.heap.size w w6) := HZ4.out.trans (G6.mono HZ4.out.size)
  have HB46 : Hid (Blk w6 g4 26 (bC noB none 0)) := HB4'.out.below G6 HB4'.out.lt
  have HB76 : Hid (Blk w6 g7 26 (bC b (some ⟨g, 0, none⟩) c')) := B7'
  have hg7 : Hid (g ≠ g7) := by
    have h1 := (World.ownsRow.lt R4.row g rfl).2
    show g ≠ g7
    omega
  have hlw : Hid (w.heap.size ≤ w3.heap.size) := HZ.out.size
  have c7 := (bkF_of HL.out B7').es
  have HLe : Hid ((eC e na1 nc1 ka1 kc1).length = 46) := eC_len HLh.out _ _ _ _
  clear HRow R4 R6 hmap hk1 hgB hgL hcm hcn hMg e0 GA GB B7 B7' G6 l7 HZ4 HB4' HZ
  go_wp2_with (refine st_one rfl 4 (.tmp 46) (.const (.bool true)) rfl g (k * 46 + 43) 45 _ (.bool true) (by first | rfl | simp [Act.eval]) rfl rfl rfl (by rw [List.length_append, List.length_append, HISL.out, HLe.out]; omega) HGB.out s_bool ?_)
  intro w7 B8 G7
  have HG7 : Hid (Blk w7 g 45 (is1.flatMap itC ++ (eC { e with g := true } na1 nc1 ka1 kc1 ++ (is2.flatMap itC ++ sp)))) := by
    rw [set_mid _ _ _ (k * 46) 43 _ HISL.out (by rw [HLe.out]; decide), eC_setg HLh.out] at B8
    exact B8
  have HGR : Hid (w6.grownBy w7 (some g)) := G7
  have c7' := (bkF_of HL.out (HB76.out.kept G7 (fun q => hg7.out (Option.some.inj q).symm))).es
  clear B8 G7 HGB c7
  go_wp2_with (first | (refine bd_w (by rfl) 41 #[] rfl (six nv.1 none 0 none nv.2.list.length 0) (bd_nv _) ?_) | (refine st_row rfl 41 (.tmp 52) (.tmp 50) rfl g (k * 46 + 5) 45 (is1.flatMap itC ++ [.int .i64 e.k, .string e.t, .int .i64 e.tb, .int .i64 e.dc, .int .i64 e.vr]) (six e.v.1 na1 nc1 ka1 e.v.2.list.length kc1) ((nums .u8 e.h ++ [.bool true, .int .i64 e.ab, .int .i64 e.ae]) ++ (is2.flatMap itC ++ sp)) (six nv.1 none 0 none nv.2.list.length 0) (by first | rfl | simp [Act.eval]) rfl (by rw [List.length_append, HISL.out]; rfl) (by have h := HG7.out; simpa [eC] using h) rfl (szV _ _ _ _ _ _) (six_one _ _ _ _ _ _) ?_))
  intro w8 B9 G8
  have HR8 : Hid (RowE w3.heap.size w8 (.slice (some ⟨g, 0, none⟩) b.es.length c') (is1 ++ (⟨{ e with g := true, v := nv }, none, 0, none, 0⟩ : It) :: is2)) := by
    obtain ⟨z1, z2, z3, z4⟩ := HGL.out
    refine HR6.out.put (i' := ⟨{ e with g := true, v := nv }, none, 0, none, 0⟩) (sp := sp) ?_ ⟨[], vl_lf w6 0 0 0 em, by simp⟩ (by simpa [itC, eC] using B9) (HGR.out.trans G8) ?_ z2 z3
    · have h := HEW.out
      exact ⟨h.k, h.t, h.tb, h.dc, h.vr, wf_nv, h.h, h.ab, h.ae⟩
    · simp only [List.length_append] at z1 ⊢
      rw [HLe.out] at z1
      rw [show (itC (⟨{ e with g := true, v := nv }, none, 0, none, 0⟩ : It)).length = 46 from eC_len (e := { e with g := true, v := nv }) HLh.out _ _ _ _]
      exact z1
  have hZ8 : Hid (Below w.heap.size w w8) := by
    have hg' : w.heap.size ≤ g := Nat.le_trans hlw.out HGL.out.2.2.2
    have h1 := Sh.grown_below HZ6.out HGR.out HZ6.out.size hg'
    exact Sh.grown_below h1 G8 h1.size hg'
  have hg48 : Hid (some g4 ≠ some g) := fun q => by have := Option.some.inj q; have := hg43.out; have := HGL.out.2.2.2; omega
  have B48 : Blk w8 g4 26 (bC noB none 0) := (HB46.out.kept HGR.out hg48.out).kept G8 hg48.out
  have B78 : Blk w8 g7 26 (bC b (some ⟨g, 0, none⟩) c') := (HB76.out.kept HGR.out (fun q => hg7.out (Option.some.inj q).symm)).kept G8 (fun q => hg7.out (Option.some.inj q).symm)
  clear B9 G8 HGR HG7 c7' HB46 HB76 HZ6 HR6
  go_wp2_with (first
    | (refine ld_w (by rfl) 26 (.tmp 7) rfl g7 0 rfl (bC b (some ⟨g, 0, none⟩) c') _ B78.all Tryz.underlying26 rfl (sB HL.out _ _) ?_)
    | (refine st_all rfl 26 (.tmp 4) (.tmp 53) rfl g4 26 (bC noB none 0) (bC b (some ⟨g, 0, none⟩) c') rfl rfl B48 (by rw [bC_len HL.out, bC_len zr_len]) (sB HL.out _ _) (bC_one _ _ _) ?_))
  intro w9 B4 G9
  have HF : Hid (redR b (k : Int) = (0, redB b k e) ∧ EsM w9 (some ⟨g, 0, none⟩) (redB b k e).es ∧ Below w.heap.size w w9) := by
    refine ⟨HRd.out, ?_, Sh.grown_below hZ8.out G9 hZ8.out.size hg4.out⟩
    have h := (HR8.out.kept G9 (fun x q => by have := Option.some.inj q; have := hg43.out; omega)).esm'
    rw [map_set HMp.out.1 HMp.out.2] at h
    have e2 : (redB b k e).es = b.es.set k { e with g := true, v := nv } := by
      unfold redB
      rw [gon_2 (show e.k = 2 from HK2.out)]
    rw [e2]
    exact h
  clear G9 HRd B78 B48 HR8 hZ8
  go_wp2
  (try simp only [Exit.inBlock, Exit.then])
  refine bodyPost_ret (res_two rfl _ g4 26 _ _ rfl B4 Tryz.underlying26 rfl (sB HL.out _ _)) rfl ⟨redB b k e, 0, some ⟨g, 0, none⟩, c', ?_, HF.out⟩
  rw [bC_red]
  rfl
end Go.Proofs.YtlefdnjokppibaaGreatDoor.Sh
