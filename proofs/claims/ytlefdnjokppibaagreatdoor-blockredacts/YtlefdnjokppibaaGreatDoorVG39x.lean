/-
  The document's Form. · The document's Form, walked. · The document's Form, walked: tables, indexes, deletions.
-/
import Derived.Test.YtlefdnjokppibaaGreatDoorVG38x
import Derived.Test.YtlefdnjokppibaaGreatDoorVG33x
namespace Go.Proofs.YtlefdnjokppibaaGreatDoor.Sh
open Go Go.RowKit Math Mt
set_option linter.unusedVariables false
set_option linter.unusedSimpArgs false
theorem fz {n : Int} : inP n 0 0 ↔ n = 0 := by unfold inP; omega
theorem tz {t : ByteArray} : inP (t.size : Int) 0 0 ↔ t = em := by
  rw [fz]
  constructor
  · intro h
    have e : t.data.toList = [] := List.eq_nil_of_length_eq_zero (by simpa using h)
    have e2 : t.data = #[] := by rw [← Array.toList_inj]; exact e
    cases t with | mk d => simp only at e2; rw [e2]
  · rintro rfl; rfl
theorem rest_ne {e : En} (hk : e.k ≠ 2) : restB e = true ↔ e.g = false ∧ e.v = nv ∧ e.h = zr := by
  unfold restB
  rw [if_neg hk]
  simp only [Bool.and_eq_true, decide_eq_true_iff, Bool.not_eq_true', nvB_iff]
  exact ⟨fun ⟨⟨a, b⟩, c⟩ => ⟨a, b, c⟩, fun ⟨a, b, c⟩ => ⟨⟨a, b⟩, c⟩⟩
theorem rest_two {e : En} (hk : e.k = 2) : restB e = true ↔ (e.g = true → e.v = nv) := by
  unfold restB
  rw [if_pos hk]
  cases e.g <;> simp [nvB_iff]
theorem form_of {e : En} {s : Sp} (hs : spn e.k = some s) : formB e = true ↔ Fit s e ∧ restB e = true := by
  rw [show (formB e = true) = Form e from rfl, form_iff]
  constructor
  · rintro ⟨s', h1, h2, h3⟩
    rw [hs] at h1
    obtain rfl := Option.some.inj h1
    exact ⟨h2, h3⟩
  · rintro ⟨h2, h3⟩
    exact ⟨s, hs, h2, h3⟩
theorem form_none {e : En} (hs : spn e.k = none) : formB e = false := by unfold formB; rw [hs]
theorem form_1 {e : En} (hk : e.k = 1) : formB e = true ↔ (inP (e.t.size : Int) 1 4096) ∧ Pl e ⟨1, e.t, 0, 0, 0, nv, zr, false, 0, 0⟩ := by
  rw [form_of (s := (spn 1).get rfl) (by rw [hk]; rfl), rest_ne (by rw [hk]; decide)]
  constructor
  · rintro ⟨f, hg, hv, hh⟩
    exact ⟨f.t, ⟨hk, rfl, fz.1 f.tb, fz.1 f.dc, fz.1 f.vr, hh, hg, fz.1 f.ab, fz.1 f.ae, hv⟩⟩
  · rintro ⟨h1, p⟩
    exact ⟨⟨h1, fz.2 p.tb, fz.2 p.dc, fz.2 p.vr, fz.2 p.ab, fz.2 p.ae⟩, p.g, p.v, p.h⟩
theorem form_3 {e : En} (hk : e.k = 3) : formB e = true ↔ (inP e.tb 1 64 ∧ inP e.dc 1 65536 ∧ inP e.vr 1 2147483648) ∧ Pl e ⟨3, em, e.tb, e.dc, e.vr, nv, zr, false, 0, 0⟩ := by
  rw [form_of (s := (spn 3).get rfl) (by rw [hk]; rfl), rest_ne (by rw [hk]; decide)]
  constructor
  · rintro ⟨f, hg, hv, hh⟩
    exact ⟨⟨f.tb, f.dc, f.vr⟩, ⟨hk, tz.1 f.t, rfl, rfl, rfl, hh, hg, fz.1 f.ab, fz.1 f.ae, hv⟩⟩
  · rintro ⟨⟨h1, h2, h3⟩, p⟩
    exact ⟨⟨tz.2 p.t, h1, h2, h3, fz.2 p.ab, fz.2 p.ae⟩, p.g, p.v, p.h⟩
theorem form_4 {e : En} (hk : e.k = 4) : formB e = true ↔ (inP e.ab 0 2147483648 ∧ inP e.ae 0 2147483648) ∧ Pl e ⟨4, em, 0, 0, 0, nv, zr, false, e.ab, e.ae⟩ := by
  rw [form_of (s := (spn 4).get rfl) (by rw [hk]; rfl), rest_ne (by rw [hk]; decide)]
  constructor
  · rintro ⟨f, hg, hv, hh⟩
    exact ⟨⟨f.ab, f.ae⟩, ⟨hk, tz.1 f.t, fz.1 f.tb, fz.1 f.dc, fz.1 f.vr, hh, hg, rfl, rfl, hv⟩⟩
  · rintro ⟨⟨h1, h2⟩, p⟩
    exact ⟨⟨tz.2 p.t, fz.2 p.tb, fz.2 p.dc, fz.2 p.vr, h1, h2⟩, p.g, p.v, p.h⟩
theorem form_5 {e : En} (hk : e.k = 5) : formB e = true ↔ (inP e.tb 1 64 ∧ inP (e.t.size : Int) 1 40) ∧ Pl e ⟨5, e.t, e.tb, 0, 0, nv, zr, false, 0, 0⟩ := by
  rw [form_of (s := (spn 5).get rfl) (by rw [hk]; rfl), rest_ne (by rw [hk]; decide)]
  constructor
  · rintro ⟨f, hg, hv, hh⟩
    exact ⟨⟨f.tb, f.t⟩, ⟨hk, rfl, rfl, fz.1 f.dc, fz.1 f.vr, hh, hg, fz.1 f.ab, fz.1 f.ae, hv⟩⟩
  · rintro ⟨⟨h1, h2⟩, p⟩
    exact ⟨⟨h2, h1, fz.2 p.dc, fz.2 p.vr, fz.2 p.ab, fz.2 p.ae⟩, p.g, p.v, p.h⟩
theorem form_7 {e : En} (hk : e.k = 7) : formB e = true ↔ (inP e.tb 1 64 ∧ inP (e.t.size : Int) 1 40) ∧ Pl e ⟨7, e.t, e.tb, 0, 0, nv, zr, false, 0, 0⟩ := by
  rw [form_of (s := (spn 7).get rfl) (by rw [hk]; rfl), rest_ne (by rw [hk]; decide)]
  constructor
  · rintro ⟨f, hg, hv, hh⟩
    exact ⟨⟨f.tb, f.t⟩, ⟨hk, rfl, rfl, fz.1 f.dc, fz.1 f.vr, hh, hg, fz.1 f.ab, fz.1 f.ae, hv⟩⟩
  · rintro ⟨⟨h1, h2⟩, p⟩
    exact ⟨⟨h2, h1, fz.2 p.dc, fz.2 p.vr, fz.2 p.ab, fz.2 p.ae⟩, p.g, p.v, p.h⟩
theorem form_6 {e : En} (hk : e.k = 6) : formB e = true ↔ (inP e.tb 1 64) ∧ Pl e ⟨6, em, e.tb, 0, 0, nv, zr, false, 0, 0⟩ := by
  rw [form_of (s := (spn 6).get rfl) (by rw [hk]; rfl), rest_ne (by rw [hk]; decide)]
  constructor
  · rintro ⟨f, hg, hv, hh⟩
    exact ⟨f.tb, ⟨hk, tz.1 f.t, rfl, fz.1 f.dc, fz.1 f.vr, hh, hg, fz.1 f.ab, fz.1 f.ae, hv⟩⟩
  · rintro ⟨h1, p⟩
    exact ⟨⟨tz.2 p.t, h1, fz.2 p.dc, fz.2 p.vr, fz.2 p.ab, fz.2 p.ae⟩, p.g, p.v, p.h⟩
theorem form_2 {e : En} (hk : e.k = 2) : formB e = true ↔ (e.g = true → e.v = nv) ∧ (inP e.tb 1 64 ∧ inP e.dc 1 65536 ∧ inP e.vr 0 2147483648) ∧ Pl { e with v := nv } ⟨2, em, e.tb, e.dc, e.vr, nv, e.h, e.g, 0, 0⟩ := by
  rw [form_of (s := (spn 2).get rfl) (by rw [hk]; rfl), rest_two hk]
  constructor
  · rintro ⟨f, hr⟩
    exact ⟨hr, ⟨f.tb, f.dc, f.vr⟩, ⟨hk, tz.1 f.t, rfl, rfl, rfl, rfl, rfl, fz.1 f.ab, fz.1 f.ae, rfl⟩⟩
  · rintro ⟨hr, ⟨h1, h2, h3⟩, p⟩
    exact ⟨⟨tz.2 p.t, h1, h2, h3, fz.2 p.ab, fz.2 p.ae⟩, hr⟩
theorem spn_none {k : Int} (h1 : k ≠ 1) (h2 : k ≠ 2) (h3 : k ≠ 3) (h4 : k ≠ 4) (h5 : k ≠ 5) (h7 : k ≠ 7) (h6 : k ≠ 6) : spn k = none := by
  unfold spn
  rw [if_neg h1, if_neg h2, if_neg h3, if_neg h4, if_neg (by omega), if_neg h6]
theorem len32 {α : Type} : ∀ {l : List α}, l.length = 32 → ∃ x0 x1 x2 x3 x4 x5 x6 x7 x8 x9 x10 x11 x12 x13 x14 x15 x16 x17 x18 x19 x20 x21 x22 x23 x24 x25 x26 x27 x28 x29 x30 x31, l = [x0, x1, x2, x3, x4, x5, x6, x7, x8, x9, x10, x11, x12, x13, x14, x15, x16, x17, x18, x19, x20, x21, x22, x23, x24, x25, x26, x27, x28, x29, x30, x31]
  | [x0, x1, x2, x3, x4, x5, x6, x7, x8, x9, x10, x11, x12, x13, x14, x15, x16, x17, x18, x19, x20, x21, x22, x23, x24, x25, x26, x27, x28, x29, x30, x31], _ => ⟨x0, x1, x2, x3, x4, x5, x6, x7, x8, x9, x10, x11, x12, x13, x14, x15, x16, x17, x18, x19, x20, x21, x22, x23, x24, x25, x26, x27, x28, x29, x30, x31, rfl⟩
set_option maxRecDepth 8000 in
theorem bd_1 (a : Act) (t : ByteArray) (h1 : a.eval (.tmp 27) = .int .i64 1) (h2 : a.eval (.tmp 29) = .string t) : Tryz.prog.built 45 ((#[(0, .tmp 27), (1, .tmp 29)] : Array (Nat × Operand)).map fun p => (p.1, a.eval p.2)).toList = some (eC (⟨1, t, 0, 0, 0, nv, zr, false, 0, 0⟩) none 0 none 0).toArray := by
  simp only [List.map_toArray, List.map_cons, List.map_nil, h1, h2]
  kernel_rfl
set_option maxRecDepth 8000 in
theorem bd_2 (a : Act) (tb dc vr : Int) (l : List Nat) (hl : l.length = 32) (g : Bool) (h1 : a.eval (.tmp 56) = .int .i64 2) (h2 : a.eval (.tmp 58) = .int .i64 tb) (h3 : a.eval (.tmp 60) = .int .i64 dc) (h4 : a.eval (.tmp 62) = .int .i64 vr) (h5 : a.eval (.tmp 64) = .agg (nums .u8 l).toArray) (h6 : a.eval (.tmp 66) = .bool g) : Tryz.prog.built 45 ((#[(0, .tmp 56), (2, .tmp 58), (3, .tmp 60), (4, .tmp 62), (6, .tmp 64), (7, .tmp 66)] : Array (Nat × Operand)).map fun p => (p.1, a.eval p.2)).toList = some (eC (⟨2, em, tb, dc, vr, nv, l, g, 0, 0⟩) none 0 none 0).toArray := by
  obtain ⟨x0, x1, x2, x3, x4, x5, x6, x7, x8, x9, x10, x11, x12, x13, x14, x15, x16, x17, x18, x19, x20, x21, x22, x23, x24, x25, x26, x27, x28, x29, x30, x31, rfl⟩ := len32 hl
  simp only [List.map_toArray, List.map_cons, List.map_nil, h1, h2, h3, h4, h5, h6]
  kernel_rfl
set_option maxRecDepth 8000 in
theorem bd_3 (a : Act) (tb dc vr : Int) (h1 : a.eval (.tmp 84) = .int .i64 3) (h2 : a.eval (.tmp 86) = .int .i64 tb) (h3 : a.eval (.tmp 88) = .int .i64 dc) (h4 : a.eval (.tmp 90) = .int .i64 vr) : Tryz.prog.built 45 ((#[(0, .tmp 84), (2, .tmp 86), (3, .tmp 88), (4, .tmp 90)] : Array (Nat × Operand)).map fun p => (p.1, a.eval p.2)).toList = some (eC (⟨3, em, tb, dc, vr, nv, zr, false, 0, 0⟩) none 0 none 0).toArray := by
  simp only [List.map_toArray, List.map_cons, List.map_nil, h1, h2, h3, h4]
  kernel_rfl
set_option maxRecDepth 8000 in
theorem bd_4 (a : Act) (ab ae : Int) (h1 : a.eval (.tmp 109) = .int .i64 4) (h2 : a.eval (.tmp 111) = .agg #[.int .i64 ab, .int .i64 ae]) : Tryz.prog.built 45 ((#[(0, .tmp 109), (8, .tmp 111)] : Array (Nat × Operand)).map fun p => (p.1, a.eval p.2)).toList = some (eC (⟨4, em, 0, 0, 0, nv, zr, false, ab, ae⟩) none 0 none 0).toArray := by
  simp only [List.map_toArray, List.map_cons, List.map_nil, h1, h2]
  kernel_rfl
set_option maxRecDepth 8000 in
theorem bd_5 (a : Act) (k tb : Int) (t : ByteArray) (h1 : a.eval (.tmp 125) = .int .i64 k) (h2 : a.eval (.tmp 127) = .int .i64 tb) (h3 : a.eval (.tmp 129) = .string t) : Tryz.prog.built 45 ((#[(0, .tmp 125), (2, .tmp 127), (1, .tmp 129)] : Array (Nat × Operand)).map fun p => (p.1, a.eval p.2)).toList = some (eC (⟨k, t, tb, 0, 0, nv, zr, false, 0, 0⟩) none 0 none 0).toArray := by
  simp only [List.map_toArray, List.map_cons, List.map_nil, h1, h2, h3]
  kernel_rfl
set_option maxRecDepth 8000 in
theorem bd_6 (a : Act) (tb : Int) (h1 : a.eval (.tmp 139) = .int .i64 6) (h2 : a.eval (.tmp 141) = .int .i64 tb) : Tryz.prog.built 45 ((#[(0, .tmp 139), (2, .tmp 141)] : Array (Nat × Operand)).map fun p => (p.1, a.eval p.2)).toList = some (eC (⟨6, em, tb, 0, 0, nv, zr, false, 0, 0⟩) none 0 none 0).toArray := by
  simp only [List.map_toArray, List.map_cons, List.map_nil, h1, h2]
  kernel_rfl
end Go.Proofs.YtlefdnjokppibaaGreatDoor.Sh
namespace Go.Proofs.YtlefdnjokppibaaGreatDoor.Sh
open Go Go.RowKit Math Mt
set_option linter.unusedVariables false
set_option linter.unusedSimpArgs false
theorem bool_of2 (p : Prop) : ∃ t : Bool, Hid (t = true ↔ p) := by
  by_cases h : p
  · exact ⟨true, ⟨fun _ => h, fun _ => rfl⟩⟩
  · exact ⟨false, ⟨fun q => (by cases q), fun q => absurd q h⟩⟩
theorem i00 : I64 0 := ⟨by decide, by decide⟩
theorem em_sz : em.size ≤ 140737488355328 := by decide
theorem tru {p : Prop} (h : true = true ↔ p) : p := h.1 rfl
theorem fls {p : Prop} (h : false = true ↔ p) : ¬ p := fun q => by cases h.2 q
theorem fls_of {a : Prop} {T : Bool} (h : T = true ↔ a) (hn : ¬ a) : T = false := by
  cases T
  · rfl
  · exact absurd (h.1 rfl) hn
theorem w_1 {e : En} (he : EnW e) : EnW (⟨1, e.t, 0, 0, 0, nv, zr, false, 0, 0⟩ : En) := ⟨(⟨by decide, by decide⟩ : I64 1), he.t, i00, i00, i00, wf_nv, h32_zr, i00, i00⟩
theorem w_2 {e : En} (he : EnW e) : EnW (⟨2, em, e.tb, e.dc, e.vr, nv, e.h, e.g, 0, 0⟩ : En) := ⟨(⟨by decide, by decide⟩ : I64 2), em_sz, he.tb, he.dc, he.vr, wf_nv, he.h, i00, i00⟩
theorem w_3 {e : En} (he : EnW e) : EnW (⟨3, em, e.tb, e.dc, e.vr, nv, zr, false, 0, 0⟩ : En) := ⟨(⟨by decide, by decide⟩ : I64 3), em_sz, he.tb, he.dc, he.vr, wf_nv, h32_zr, i00, i00⟩
theorem w_4 {e : En} (he : EnW e) : EnW (⟨4, em, 0, 0, 0, nv, zr, false, e.ab, e.ae⟩ : En) := ⟨(⟨by decide, by decide⟩ : I64 4), em_sz, i00, i00, i00, wf_nv, h32_zr, he.ab, he.ae⟩
theorem w_5 {e : En} (he : EnW e) : EnW (⟨5, e.t, e.tb, 0, 0, nv, zr, false, 0, 0⟩ : En) := ⟨(⟨by decide, by decide⟩ : I64 5), he.t, he.tb, i00, i00, wf_nv, h32_zr, i00, i00⟩
theorem w_7 {e : En} (he : EnW e) : EnW (⟨7, e.t, e.tb, 0, 0, nv, zr, false, 0, 0⟩ : En) := ⟨(⟨by decide, by decide⟩ : I64 7), he.t, he.tb, i00, i00, wf_nv, h32_zr, i00, i00⟩
theorem w_6 {e : En} (he : EnW e) : EnW (⟨6, em, e.tb, 0, 0, nv, zr, false, 0, 0⟩ : En) := ⟨(⟨by decide, by decide⟩ : I64 6), em_sz, he.tb, i00, i00, wf_nv, h32_zr, i00, i00⟩
theorem w_bare {e : En} (he : EnW e) : EnW { e with v := nv } := ⟨he.k, he.t, he.tb, he.dc, he.vr, wf_nv, he.h, he.ab, he.ae⟩
set_option maxHeartbeats 1000000 in
set_option maxRecDepth 8000 in
theorem rform_1 (e : En) (he : EnW e) (na : Option Addr) (nc : Nat) (ka : Option Addr) (kc : Nat) (w : World) (hv : Vl w e.v na nc ka kc) (hk : e.k = 1) (T : Bool) (HT : Hid (T = true ↔ ((inP (e.t.size : Int) 1 4096) ∧ Pl e (⟨1, e.t, 0, 0, 0, nv, zr, false, 0, 0⟩ : En)))) :
    Calls Tryz.prog 58 #[.agg (eC e na nc ka kc).toArray] w fun e' w' => e' = .returned (.bool T) ∧ Hid (Below w.heap.size w w') := by
  have HL : Hid (e.h.length = 32) := he.h.1
  have HE : Hid (EnW e) := he
  have HV : Hid (Vl w e.v na nc ka kc) := hv
  clear he hv
  go_enter Tryz.func58, Tryz.ntmps58
  go_wp2_with (refine al_box rfl 45 (.tmp 0) rfl (eC e na nc ka kc) rfl ?_)
  intro g1 w1 l1 B1 G0
  have HZ : Hid (Below w.heap.size w w1) := (Below.refl w.heap.size w).grown G0 (Nat.le_refl _) (by simp)
  clear G0
  have HB1 : Hid (Blk w1 g1 45 (eC e na nc ka kc)) := B1
  obtain ⟨a1, a2, a3, a4, a5, a6, a7, a8, a9, a10⟩ := enF_of HL.out B1.all
  simp only [Nat.zero_add] at a1 a2 a3 a4 a5 a6 a7 a8 a9 a10
  have A6 : Hid (w1.rangeAt g1 5 (six e.v.1 na nc ka e.v.2.list.length kc)) := a6
  have A7 : Hid (w1.rangeAt g1 11 (nums .u8 e.h)) := a7
  clear a6 a7 B1
  rw [hk] at a1
  obtain ⟨tn, Htn⟩ := bool_of2 (inP (e.t.size : Int) 1 40)
  obtain ⟨tt, Htt⟩ := bool_of2 (inP e.tb 1 64)
  obtain ⟨td, Htd⟩ := bool_of2 (inP e.dc 1 65536)
  have K := in_any (e.t.size : Int) 1 40 w1 tn Htn
  go_wp2_with fail
  refine K.mono ?_
  clear K
  rintro e' w' ⟨rfl, rfl⟩
  have K := in_any e.tb 1 64 w' tt Htt
  go_wp2_with fail
  refine K.mono ?_
  clear K
  rintro e' w' ⟨rfl, rfl⟩
  have K := in_any e.dc 1 65536 w' td Htd
  go_wp2_with fail
  refine K.mono ?_
  clear K
  rintro e' w' ⟨rfl, rfl⟩
  obtain ⟨tx, Htx⟩ := bool_of2 (inP (e.t.size : Int) 1 4096)
  have K := in_any (e.t.size : Int) 1 4096 w' tx Htx
  go_wp2_with fail
  refine K.mono ?_
  clear K
  rintro e' w' ⟨rfl, rfl⟩
  cases tx with
  | false =>
    obtain rfl : T = false := fls_of HT.out (fun q => fls Htx.out (q.1))
    go_wp2
    go_ret
    exact ⟨rfl, HZ.out⟩
  | true =>
  have Ptx : Hid _ := tru Htx.out
  clear Htx
  obtain ⟨tp, HTP⟩ := bool_of2 (Pl e (⟨1, e.t, 0, 0, 0, nv, zr, false, 0, 0⟩ : En))
  obtain rfl : T = tp := Bool.eq_iff_iff.2 (HT.out.trans ⟨fun q => HTP.out.2 q.2, fun q => ⟨Ptx.out, HTP.out.1 q⟩⟩)
  have K := plain_any e (⟨1, e.t, 0, 0, 0, nv, zr, false, 0, 0⟩ : En) HE.out (w_1 HE.out) na nc ka kc none 0 none 0 w' (HV.out.below HZ.out) (vl_nv w') T HTP
  go_wp2_with (first
    | (refine ld_w (by rfl) 45 (.tmp 1) rfl g1 0 rfl (eC e na nc ka kc) _ HB1.out.all Tryz.underlying45 rfl (sE HL.out _ _ _ _) ?_)
    | (refine bd_w (by rfl) 45 _ rfl (eC (⟨1, e.t, 0, 0, 0, nv, zr, false, 0, 0⟩ : En) none 0 none 0) (bd_1 _ e.t rfl rfl) ?_))
  refine K.mono ?_
  clear K
  rintro e' w9 ⟨rfl, H⟩
  have HF : Hid (Below w.heap.size w w9) := HZ.out.trans (H.out.mono HZ.out.size)
  clear H A6 A7 HB1 HTP
  go_wp2
  go_ret
  exact ⟨rfl, HF.out⟩
set_option maxHeartbeats 1000000 in
set_option maxRecDepth 8000 in
theorem rform_6 (e : En) (he : EnW e) (na : Option Addr) (nc : Nat) (ka : Option Addr) (kc : Nat) (w : World) (hv : Vl w e.v na nc ka kc) (hk : e.k = 6) (T : Bool) (HT : Hid (T = true ↔ ((inP e.tb 1 64) ∧ Pl e (⟨6, em, e.tb, 0, 0, nv, zr, false, 0, 0⟩ : En)))) :
    Calls Tryz.prog 58 #[.agg (eC e na nc ka kc).toArray] w fun e' w' => e' = .returned (.bool T) ∧ Hid (Below w.heap.size w w') := by
  have HL : Hid (e.h.length = 32) := he.h.1
  have HE : Hid (EnW e) := he
  have HV : Hid (Vl w e.v na nc ka kc) := hv
  clear he hv
  go_enter Tryz.func58, Tryz.ntmps58
  go_wp2_with (refine al_box rfl 45 (.tmp 0) rfl (eC e na nc ka kc) rfl ?_)
  intro g1 w1 l1 B1 G0
  have HZ : Hid (Below w.heap.size w w1) := (Below.refl w.heap.size w).grown G0 (Nat.le_refl _) (by simp)
  clear G0
  have HB1 : Hid (Blk w1 g1 45 (eC e na nc ka kc)) := B1
  obtain ⟨a1, a2, a3, a4, a5, a6, a7, a8, a9, a10⟩ := enF_of HL.out B1.all
  simp only [Nat.zero_add] at a1 a2 a3 a4 a5 a6 a7 a8 a9 a10
  have A6 : Hid (w1.rangeAt g1 5 (six e.v.1 na nc ka e.v.2.list.length kc)) := a6
  have A7 : Hid (w1.rangeAt g1 11 (nums .u8 e.h)) := a7
  clear a6 a7 B1
  rw [hk] at a1
  obtain ⟨tn, Htn⟩ := bool_of2 (inP (e.t.size : Int) 1 40)
  obtain ⟨tt, Htt⟩ := bool_of2 (inP e.tb 1 64)
  obtain ⟨td, Htd⟩ := bool_of2 (inP e.dc 1 65536)
  have K := in_any (e.t.size : Int) 1 40 w1 tn Htn
  go_wp2_with fail
  refine K.mono ?_
  clear K
  rintro e' w' ⟨rfl, rfl⟩
  have K := in_any e.tb 1 64 w' tt Htt
  go_wp2_with fail
  refine K.mono ?_
  clear K
  rintro e' w' ⟨rfl, rfl⟩
  have K := in_any e.dc 1 65536 w' td Htd
  go_wp2_with fail
  refine K.mono ?_
  clear K
  rintro e' w' ⟨rfl, rfl⟩
  cases tt with
  | false =>
    obtain rfl : T = false := fls_of HT.out (fun q => fls Htt.out (q.1))
    go_wp2
    go_ret
    exact ⟨rfl, HZ.out⟩
  | true =>
  have Ptt : Hid _ := tru Htt.out
  clear Htt
  obtain ⟨tp, HTP⟩ := bool_of2 (Pl e (⟨6, em, e.tb, 0, 0, nv, zr, false, 0, 0⟩ : En))
  obtain rfl : T = tp := Bool.eq_iff_iff.2 (HT.out.trans ⟨fun q => HTP.out.2 q.2, fun q => ⟨Ptt.out, HTP.out.1 q⟩⟩)
  have K := plain_any e (⟨6, em, e.tb, 0, 0, nv, zr, false, 0, 0⟩ : En) HE.out (w_6 HE.out) na nc ka kc none 0 none 0 w' (HV.out.below HZ.out) (vl_nv w') T HTP
  go_wp2_with (first
    | (refine ld_w (by rfl) 45 (.tmp 1) rfl g1 0 rfl (eC e na nc ka kc) _ HB1.out.all Tryz.underlying45 rfl (sE HL.out _ _ _ _) ?_)
    | (refine bd_w (by rfl) 45 _ rfl (eC (⟨6, em, e.tb, 0, 0, nv, zr, false, 0, 0⟩ : En) none 0 none 0) (bd_6 _ e.tb rfl rfl) ?_))
  refine K.mono ?_
  clear K
  rintro e' w9 ⟨rfl, H⟩
  have HF : Hid (Below w.heap.size w w9) := HZ.out.trans (H.out.mono HZ.out.size)
  clear H A6 A7 HB1 HTP
  go_wp2
  go_ret
  exact ⟨rfl, HF.out⟩
set_option maxHeartbeats 1000000 in
set_option maxRecDepth 8000 in
theorem rform_4 (e : En) (he : EnW e) (na : Option Addr) (nc : Nat) (ka : Option Addr) (kc : Nat) (w : World) (hv : Vl w e.v na nc ka kc) (hk : e.k = 4) (T : Bool) (HT : Hid (T = true ↔ ((inP e.ab 0 2147483648 ∧ inP e.ae 0 2147483648) ∧ Pl e (⟨4, em, 0, 0, 0, nv, zr, false, e.ab, e.ae⟩ : En)))) :
    Calls Tryz.prog 58 #[.agg (eC e na nc ka kc).toArray] w fun e' w' => e' = .returned (.bool T) ∧ Hid (Below w.heap.size w w') := by
  have HL : Hid (e.h.length = 32) := he.h.1
  have HE : Hid (EnW e) := he
  have HV : Hid (Vl w e.v na nc ka kc) := hv
  clear he hv
  go_enter Tryz.func58, Tryz.ntmps58
  go_wp2_with (refine al_box rfl 45 (.tmp 0) rfl (eC e na nc ka kc) rfl ?_)
  intro g1 w1 l1 B1 G0
  have HZ : Hid (Below w.heap.size w w1) := (Below.refl w.heap.size w).grown G0 (Nat.le_refl _) (by simp)
  clear G0
  have HB1 : Hid (Blk w1 g1 45 (eC e na nc ka kc)) := B1
  obtain ⟨a1, a2, a3, a4, a5, a6, a7, a8, a9, a10⟩ := enF_of HL.out B1.all
  simp only [Nat.zero_add] at a1 a2 a3 a4 a5 a6 a7 a8 a9 a10
  have A6 : Hid (w1.rangeAt g1 5 (six e.v.1 na nc ka e.v.2.list.length kc)) := a6
  have A7 : Hid (w1.rangeAt g1 11 (nums .u8 e.h)) := a7
  clear a6 a7 B1
  rw [hk] at a1
  obtain ⟨tn, Htn⟩ := bool_of2 (inP (e.t.size : Int) 1 40)
  obtain ⟨tt, Htt⟩ := bool_of2 (inP e.tb 1 64)
  obtain ⟨td, Htd⟩ := bool_of2 (inP e.dc 1 65536)
  have K := in_any (e.t.size : Int) 1 40 w1 tn Htn
  go_wp2_with fail
  refine K.mono ?_
  clear K
  rintro e' w' ⟨rfl, rfl⟩
  have K := in_any e.tb 1 64 w' tt Htt
  go_wp2_with fail
  refine K.mono ?_
  clear K
  rintro e' w' ⟨rfl, rfl⟩
  have K := in_any e.dc 1 65536 w' td Htd
  go_wp2_with fail
  refine K.mono ?_
  clear K
  rintro e' w' ⟨rfl, rfl⟩
  obtain ⟨ta, Hta⟩ := bool_of2 (inP e.ab 0 2147483648)
  have K := in_any e.ab 0 2147483648 w' ta Hta
  go_wp2_with fail
  refine K.mono ?_
  clear K
  rintro e' w' ⟨rfl, rfl⟩
  cases ta with
  | false =>
    obtain rfl : T = false := fls_of HT.out (fun q => fls Hta.out (q.1.1))
    go_wp2
    go_ret
    exact ⟨rfl, HZ.out⟩
  | true =>
  have Pta : Hid _ := tru Hta.out
  clear Hta
  obtain ⟨tz, Htz⟩ := bool_of2 (inP e.ae 0 2147483648)
  have K := in_any e.ae 0 2147483648 w' tz Htz
  go_wp2_with fail
  refine K.mono ?_
  clear K
  rintro e' w' ⟨rfl, rfl⟩
  cases tz with
  | false =>
    obtain rfl : T = false := fls_of HT.out (fun q => fls Htz.out (q.1.2))
    go_wp2
    go_ret
    exact ⟨rfl, HZ.out⟩
  | true =>
  have Ptz : Hid _ := tru Htz.out
  clear Htz
  obtain ⟨tp, HTP⟩ := bool_of2 (Pl e (⟨4, em, 0, 0, 0, nv, zr, false, e.ab, e.ae⟩ : En))
  obtain rfl : T = tp := Bool.eq_iff_iff.2 (HT.out.trans ⟨fun q => HTP.out.2 q.2, fun q => ⟨⟨Pta.out, Ptz.out⟩, HTP.out.1 q⟩⟩)
  have K := plain_any e (⟨4, em, 0, 0, 0, nv, zr, false, e.ab, e.ae⟩ : En) HE.out (w_4 HE.out) na nc ka kc none 0 none 0 w' (HV.out.below HZ.out) (vl_nv w') T HTP
  go_wp2_with (first
    | (refine ld_w (by rfl) 45 (.tmp 1) rfl g1 0 rfl (eC e na nc ka kc) _ HB1.out.all Tryz.underlying45 rfl (sE HL.out _ _ _ _) ?_)
    | (refine bd_w (by rfl) 45 _ rfl (eC (⟨4, em, 0, 0, 0, nv, zr, false, e.ab, e.ae⟩ : En) none 0 none 0) (bd_4 _ e.ab e.ae rfl rfl) ?_))
  refine K.mono ?_
  clear K
  rintro e' w9 ⟨rfl, H⟩
  have HF : Hid (Below w.heap.size w w9) := HZ.out.trans (H.out.mono HZ.out.size)
  clear H A6 A7 HB1 HTP
  go_wp2
  go_ret
  exact ⟨rfl, HF.out⟩
end Go.Proofs.YtlefdnjokppibaaGreatDoor.Sh
namespace Go.Proofs.YtlefdnjokppibaaGreatDoor.Sh
open Go Go.RowKit Math Mt
set_option linter.unusedVariables false
set_option linter.unusedSimpArgs false
set_option maxHeartbeats 1000000 in
set_option maxRecDepth 8000 in
theorem rform_3 (e : En) (he : EnW e) (na : Option Addr) (nc : Nat) (ka : Option Addr) (kc : Nat) (w : World) (hv : Vl w e.v na nc ka kc) (hk : e.k = 3) (T : Bool) (HT : Hid (T = true ↔ ((inP e.tb 1 64 ∧ inP e.dc 1 65536 ∧ inP e.vr 1 2147483648) ∧ Pl e (⟨3, em, e.tb, e.dc, e.vr, nv, zr, false, 0, 0⟩ : En)))) :
    Calls Tryz.prog 58 #[.agg (eC e na nc ka kc).toArray] w fun e' w' => e' = .returned (.bool T) ∧ Hid (Below w.heap.size w w') := by
  have HL : Hid (e.h.length = 32) := he.h.1
  have HE : Hid (EnW e) := he
  have HV : Hid (Vl w e.v na nc ka kc) := hv
  clear he hv
  go_enter Tryz.func58, Tryz.ntmps58
  go_wp2_with (refine al_box rfl 45 (.tmp 0) rfl (eC e na nc ka kc) rfl ?_)
  intro g1 w1 l1 B1 G0
  have HZ : Hid (Below w.heap.size w w1) := (Below.refl w.heap.size w).grown G0 (Nat.le_refl _) (by simp)
  clear G0
  have HB1 : Hid (Blk w1 g1 45 (eC e na nc ka kc)) := B1
  obtain ⟨a1, a2, a3, a4, a5, a6, a7, a8, a9, a10⟩ := enF_of HL.out B1.all
  simp only [Nat.zero_add] at a1 a2 a3 a4 a5 a6 a7 a8 a9 a10
  have A6 : Hid (w1.rangeAt g1 5 (six e.v.1 na nc ka e.v.2.list.length kc)) := a6
  have A7 : Hid (w1.rangeAt g1 11 (nums .u8 e.h)) := a7
  clear a6 a7 B1
  rw [hk] at a1
  obtain ⟨tn, Htn⟩ := bool_of2 (inP (e.t.size : Int) 1 40)
  obtain ⟨tt, Htt⟩ := bool_of2 (inP e.tb 1 64)
  obtain ⟨td, Htd⟩ := bool_of2 (inP e.dc 1 65536)
  have K := in_any (e.t.size : Int) 1 40 w1 tn Htn
  go_wp2_with fail
  refine K.mono ?_
  clear K
  rintro e' w' ⟨rfl, rfl⟩
  have K := in_any e.tb 1 64 w' tt Htt
  go_wp2_with fail
  refine K.mono ?_
  clear K
  rintro e' w' ⟨rfl, rfl⟩
  have K := in_any e.dc 1 65536 w' td Htd
  go_wp2_with fail
  refine K.mono ?_
  clear K
  rintro e' w' ⟨rfl, rfl⟩
  cases tt with
  | false =>
    obtain rfl : T = false := fls_of HT.out (fun q => fls Htt.out (q.1.1))
    go_wp2
    go_ret
    exact ⟨rfl, HZ.out⟩
  | true =>
  have Ptt : Hid _ := tru Htt.out
  clear Htt
  cases td with
  | false =>
    obtain rfl : T = false := fls_of HT.out (fun q => fls Htd.out (q.1.2.1))
    go_wp2
    go_ret
    exact ⟨rfl, HZ.out⟩
  | true =>
  have Ptd : Hid _ := tru Htd.out
  clear Htd
  obtain ⟨tv, Htv⟩ := bool_of2 (inP e.vr 1 2147483648)
  have K := in_any e.vr 1 2147483648 w' tv Htv
  go_wp2_with fail
  refine K.mono ?_
  clear K
  rintro e' w' ⟨rfl, rfl⟩
  cases tv with
  | false =>
    obtain rfl : T = false := fls_of HT.out (fun q => fls Htv.out (q.1.2.2))
    go_wp2
    go_ret
    exact ⟨rfl, HZ.out⟩
  | true =>
  have Ptv : Hid _ := tru Htv.out
  clear Htv
  obtain ⟨tp, HTP⟩ := bool_of2 (Pl e (⟨3, em, e.tb, e.dc, e.vr, nv, zr, false, 0, 0⟩ : En))
  obtain rfl : T = tp := Bool.eq_iff_iff.2 (HT.out.trans ⟨fun q => HTP.out.2 q.2, fun q => ⟨⟨Ptt.out, Ptd.out, Ptv.out⟩, HTP.out.1 q⟩⟩)
  have K := plain_any e (⟨3, em, e.tb, e.dc, e.vr, nv, zr, false, 0, 0⟩ : En) HE.out (w_3 HE.out) na nc ka kc none 0 none 0 w' (HV.out.below HZ.out) (vl_nv w') T HTP
  go_wp2_with (first
    | (refine ld_w (by rfl) 45 (.tmp 1) rfl g1 0 rfl (eC e na nc ka kc) _ HB1.out.all Tryz.underlying45 rfl (sE HL.out _ _ _ _) ?_)
    | (refine bd_w (by rfl) 45 _ rfl (eC (⟨3, em, e.tb, e.dc, e.vr, nv, zr, false, 0, 0⟩ : En) none 0 none 0) (bd_3 _ e.tb e.dc e.vr rfl rfl rfl rfl) ?_))
  refine K.mono ?_
  clear K
  rintro e' w9 ⟨rfl, H⟩
  have HF : Hid (Below w.heap.size w w9) := HZ.out.trans (H.out.mono HZ.out.size)
  clear H A6 A7 HB1 HTP
  go_wp2
  go_ret
  exact ⟨rfl, HF.out⟩
set_option maxHeartbeats 1000000 in
set_option maxRecDepth 8000 in
theorem rform_5 (e : En) (he : EnW e) (na : Option Addr) (nc : Nat) (ka : Option Addr) (kc : Nat) (w : World) (hv : Vl w e.v na nc ka kc) (hk : e.k = 5) (T : Bool) (HT : Hid (T = true ↔ ((inP e.tb 1 64 ∧ inP (e.t.size : Int) 1 40) ∧ Pl e (⟨5, e.t, e.tb, 0, 0, nv, zr, false, 0, 0⟩ : En)))) :
    Calls Tryz.prog 58 #[.agg (eC e na nc ka kc).toArray] w fun e' w' => e' = .returned (.bool T) ∧ Hid (Below w.heap.size w w') := by
  have HL : Hid (e.h.length = 32) := he.h.1
  have HE : Hid (EnW e) := he
  have HV : Hid (Vl w e.v na nc ka kc) := hv
  clear he hv
  go_enter Tryz.func58, Tryz.ntmps58
  go_wp2_with (refine al_box rfl 45 (.tmp 0) rfl (eC e na nc ka kc) rfl ?_)
  intro g1 w1 l1 B1 G0
  have HZ : Hid (Below w.heap.size w w1) := (Below.refl w.heap.size w).grown G0 (Nat.le_refl _) (by simp)
  clear G0
  have HB1 : Hid (Blk w1 g1 45 (eC e na nc ka kc)) := B1
  obtain ⟨a1, a2, a3, a4, a5, a6, a7, a8, a9, a10⟩ := enF_of HL.out B1.all
  simp only [Nat.zero_add] at a1 a2 a3 a4 a5 a6 a7 a8 a9 a10
  have A6 : Hid (w1.rangeAt g1 5 (six e.v.1 na nc ka e.v.2.list.length kc)) := a6
  have A7 : Hid (w1.rangeAt g1 11 (nums .u8 e.h)) := a7
  clear a6 a7 B1
  rw [hk] at a1
  obtain ⟨tn, Htn⟩ := bool_of2 (inP (e.t.size : Int) 1 40)
  obtain ⟨tt, Htt⟩ := bool_of2 (inP e.tb 1 64)
  obtain ⟨td, Htd⟩ := bool_of2 (inP e.dc 1 65536)
  have K := in_any (e.t.size : Int) 1 40 w1 tn Htn
  go_wp2_with fail
  refine K.mono ?_
  clear K
  rintro e' w' ⟨rfl, rfl⟩
  have K := in_any e.tb 1 64 w' tt Htt
  go_wp2_with fail
  refine K.mono ?_
  clear K
  rintro e' w' ⟨rfl, rfl⟩
  have K := in_any e.dc 1 65536 w' td Htd
  go_wp2_with fail
  refine K.mono ?_
  clear K
  rintro e' w' ⟨rfl, rfl⟩
  cases tt with
  | false =>
    obtain rfl : T = false := fls_of HT.out (fun q => fls Htt.out (q.1.1))
    go_wp2
    go_ret
    exact ⟨rfl, HZ.out⟩
  | true =>
  have Ptt : Hid _ := tru Htt.out
  clear Htt
  cases tn with
  | false =>
    obtain rfl : T = false := fls_of HT.out (fun q => fls Htn.out (q.1.2))
    go_wp2
    go_ret
    exact ⟨rfl, HZ.out⟩
  | true =>
  have Ptn : Hid _ := tru Htn.out
  clear Htn
  obtain ⟨tp, HTP⟩ := bool_of2 (Pl e (⟨5, e.t, e.tb, 0, 0, nv, zr, false, 0, 0⟩ : En))
  obtain rfl : T = tp := Bool.eq_iff_iff.2 (HT.out.trans ⟨fun q => HTP.out.2 q.2, fun q => ⟨⟨Ptt.out, Ptn.out⟩, HTP.out.1 q⟩⟩)
  have K := plain_any e (⟨5, e.t, e.tb, 0, 0, nv, zr, false, 0, 0⟩ : En) HE.out (w_5 HE.out) na nc ka kc none 0 none 0 w' (HV.out.below HZ.out) (vl_nv w') T HTP
  go_wp2_with (first
    | (refine ld_w (by rfl) 45 (.tmp 1) rfl g1 0 rfl (eC e na nc ka kc) _ HB1.out.all Tryz.underlying45 rfl (sE HL.out _ _ _ _) ?_)
    | (refine bd_w (by rfl) 45 _ rfl (eC (⟨5, e.t, e.tb, 0, 0, nv, zr, false, 0, 0⟩ : En) none 0 none 0) (bd_5 _ 5 e.tb e.t rfl rfl rfl) ?_))
  refine K.mono ?_
  clear K
  rintro e' w9 ⟨rfl, H⟩
  have HF : Hid (Below w.heap.size w w9) := HZ.out.trans (H.out.mono HZ.out.size)
  clear H A6 A7 HB1 HTP
  go_wp2
  go_ret
  exact ⟨rfl, HF.out⟩
set_option maxHeartbeats 1000000 in
set_option maxRecDepth 8000 in
theorem rform_7 (e : En) (he : EnW e) (na : Option Addr) (nc : Nat) (ka : Option Addr) (kc : Nat) (w : World) (hv : Vl w e.v na nc ka kc) (hk : e.k = 7) (T : Bool) (HT : Hid (T = true ↔ ((inP e.tb 1 64 ∧ inP (e.t.size : Int) 1 40) ∧ Pl e (⟨7, e.t, e.tb, 0, 0, nv, zr, false, 0, 0⟩ : En)))) :
    Calls Tryz.prog 58 #[.agg (eC e na nc ka kc).toArray] w fun e' w' => e' = .returned (.bool T) ∧ Hid (Below w.heap.size w w') := by
  have HL : Hid (e.h.length = 32) := he.h.1
  have HE : Hid (EnW e) := he
  have HV : Hid (Vl w e.v na nc ka kc) := hv
  clear he hv
  go_enter Tryz.func58, Tryz.ntmps58
  go_wp2_with (refine al_box rfl 45 (.tmp 0) rfl (eC e na nc ka kc) rfl ?_)
  intro g1 w1 l1 B1 G0
  have HZ : Hid (Below w.heap.size w w1) := (Below.refl w.heap.size w).grown G0 (Nat.le_refl _) (by simp)
  clear G0
  have HB1 : Hid (Blk w1 g1 45 (eC e na nc ka kc)) := B1
  obtain ⟨a1, a2, a3, a4, a5, a6, a7, a8, a9, a10⟩ := enF_of HL.out B1.all
  simp only [Nat.zero_add] at a1 a2 a3 a4 a5 a6 a7 a8 a9 a10
  have A6 : Hid (w1.rangeAt g1 5 (six e.v.1 na nc ka e.v.2.list.length kc)) := a6
  have A7 : Hid (w1.rangeAt g1 11 (nums .u8 e.h)) := a7
  clear a6 a7 B1
  rw [hk] at a1
  obtain ⟨tn, Htn⟩ := bool_of2 (inP (e.t.size : Int) 1 40)
  obtain ⟨tt, Htt⟩ := bool_of2 (inP e.tb 1 64)
  obtain ⟨td, Htd⟩ := bool_of2 (inP e.dc 1 65536)
  have K := in_any (e.t.size : Int) 1 40 w1 tn Htn
  go_wp2_with fail
  refine K.mono ?_
  clear K
  rintro e' w' ⟨rfl, rfl⟩
  have K := in_any e.tb 1 64 w' tt Htt
  go_wp2_with fail
  refine K.mono ?_
  clear K
  rintro e' w' ⟨rfl, rfl⟩
  have K := in_any e.dc 1 65536 w' td Htd
  go_wp2_with fail
  refine K.mono ?_
  clear K
  rintro e' w' ⟨rfl, rfl⟩
  cases tt with
  | false =>
    obtain rfl : T = false := fls_of HT.out (fun q => fls Htt.out (q.1.1))
    go_wp2
    go_ret
    exact ⟨rfl, HZ.out⟩
  | true =>
  have Ptt : Hid _ := tru Htt.out
  clear Htt
  cases tn with
  | false =>
    obtain rfl : T = false := fls_of HT.out (fun q => fls Htn.out (q.1.2))
    go_wp2
    go_ret
    exact ⟨rfl, HZ.out⟩
  | true =>
  have Ptn : Hid _ := tru Htn.out
  clear Htn
  obtain ⟨tp, HTP⟩ := bool_of2 (Pl e (⟨7, e.t, e.tb, 0, 0, nv, zr, false, 0, 0⟩ : En))
  obtain rfl : T = tp := Bool.eq_iff_iff.2 (HT.out.trans ⟨fun q => HTP.out.2 q.2, fun q => ⟨⟨Ptt.out, Ptn.out⟩, HTP.out.1 q⟩⟩)
  have K := plain_any e (⟨7, e.t, e.tb, 0, 0, nv, zr, false, 0, 0⟩ : En) HE.out (w_7 HE.out) na nc ka kc none 0 none 0 w' (HV.out.below HZ.out) (vl_nv w') T HTP
  go_wp2_with (first
    | (refine ld_w (by rfl) 45 (.tmp 1) rfl g1 0 rfl (eC e na nc ka kc) _ HB1.out.all Tryz.underlying45 rfl (sE HL.out _ _ _ _) ?_)
    | (refine bd_w (by rfl) 45 _ rfl (eC (⟨7, e.t, e.tb, 0, 0, nv, zr, false, 0, 0⟩ : En) none 0 none 0) (bd_5 _ 7 e.tb e.t rfl rfl rfl) ?_))
  refine K.mono ?_
  clear K
  rintro e' w9 ⟨rfl, H⟩
  have HF : Hid (Below w.heap.size w w9) := HZ.out.trans (H.out.mono HZ.out.size)
  clear H A6 A7 HB1 HTP
  go_wp2
  go_ret
  exact ⟨rfl, HF.out⟩
end Go.Proofs.YtlefdnjokppibaaGreatDoor.Sh
