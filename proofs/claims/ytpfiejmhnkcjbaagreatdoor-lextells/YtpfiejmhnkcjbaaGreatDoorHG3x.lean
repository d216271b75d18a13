/-
   · 
-/
import Derived.Test.YtpfiejmhnkcjbaaGreatDoorHG2x
namespace Go.Proofs.YtpfiejmhnkcjbaaGreatDoor
set_option maxHeartbeats 4000000
set_option maxRecDepth 8000
open Go.RowKit
set_option linter.unusedVariables false
theorem below_dq {B : Nat} (w : World) (q : Nat) : Below B w (w.drewN q) := ⟨rfl, rfl, rfl, Nat.le_refl _, fun _ _ => rfl⟩
theorem own_bad {h : Hd} {kl : Nat} (hf : formed h kl = true) (hk : h.k = 9) (ht : h.t.toList = []) (hl : kl <= 200) (hn : named h.ns kl = false) : 3 = own h kl := by
 have := size_nil ht
 simp only [own, hf, if_true]
 rw [if_neg (by omega), if_pos ⟨hk, hn⟩]
def prev (ns : List ByteArray) (k : Nat) : ByteArray := if k = 0 then ⟨#[]⟩ else ns.getD (k - 1) ⟨#[]⟩
theorem prev_next {ns : List ByteArray} {k : Nat} {x : ByteArray} (h : ns[k]? = some x) : prev ns (k + 1) = x := by
 simp [prev, List.getD_eq_getElem?_getD, h]
theorem nil_size {t : ByteArray} (h : t.size < 1) : t.toList = [] := by
 rw [ByteArray.toList_eq]
 have : t.data.toList.length = 0 := by rw [Array.length_toList]; change t.size = 0; omega
 exact List.eq_nil_of_length_eq_zero this
theorem rise_nil {l x : ByteArray} {r : List ByteArray} (h : x.size < 1) : rises l (x :: r) = false := by
 simp only [rises, nil_size h]
 cases l.toList <;> simp [Op.bytesLess]
theorem rise_long {l x : ByteArray} {r : List ByteArray} (h : 40 < x.size) : rises l (x :: r) = false := by
 simp [rises, h]
theorem rise_first {x : ByteArray} {r : List ByteArray} (h : ¬ x.size < 1) (h2 : ¬ 40 < x.size) : rises ⟨#[]⟩ (x :: r) = rises x r := by
 have e : (⟨#[]⟩ : ByteArray).toList = [] := by rw [ByteArray.toList_eq]
 have hx : x.toList ≠ [] := fun e2 => h (by have := size_nil e2; omega)
 simp only [rises, e, h2, decide_false, Bool.not_false, Bool.and_true]
 cases hl : x.toList with
 | nil => exact absurd hl hx
 | cons a b => simp [Op.bytesLess]
theorem rcheck_9 (p : Vt) (ih : RIh 44 p) (hwf : WfV p) (na : Option Addr) (nc : Nat) (ka : Option Addr) (kc : Nat) (hk : p.1.k = 9) (d : Int) (hd0 : 0 <= d) (hd : d <= 16) (w : World) (hv : Vl w p na nc ka kc) :
 Calls Tryz.prog 44 #[.agg #[.int .i64 p.1.k, .int .i64 p.1.n, .int .i64 p.1.s, .string p.1.t, .slice na p.1.ns.length nc, .slice ka p.2.list.length kc], .int .i64 d] w fun e w' => e = .returned (.int .i64 (chkV p d)) /\ Below w.heap.size w w' := by
 have HI : Hid (RIh 44 p) := ih
 have HW : Hid (WfV p) := hwf
 have hkl := hwf.2.1
 have htl := hwf.1.t1
 have hnl := hwf.1.c1
 have HNo : Hid (formed p.1 p.2.list.length = false -> 3 = chkV p d) := fun h => (own_no h).trans (chkV_own hd (by rw [<- own_no h]; decide))
 have HMany : Hid (formed p.1 p.2.list.length = true -> 200 < p.2.list.length -> 5 = chkV p d) := fun h h2 => (own_many h h2).trans (chkV_own hd (by rw [<- own_many h h2]; decide))
 have HBad : Hid (formed p.1 p.2.list.length = true -> p.1.t.toList = [] -> p.2.list.length <= 200 -> named p.1.ns p.2.list.length = false -> 3 = chkV p d) := fun h h2 h3 h4 => (own_bad h hk h2 h3 h4).trans (chkV_own hd (by rw [<- own_bad h hk h2 h3 h4]; decide))
 have HYes : Hid (formed p.1 p.2.list.length = true -> p.1.t.toList = [] -> p.2.list.length <= 200 -> named p.1.ns p.2.list.length = true -> chkV p d = chk (p.2.drop 0) (d + 1)) := fun h1 h2 h3 h4 => chkV_kids hd (own_kids h1 h2 h3 (fun _ => h4))
 generalize chkV p d = R at *
 have b0 : Below w.heap.size w (w.alloc (.cells #[.int .i64 p.1.k, .int .i64 p.1.n, .int .i64 p.1.s, .string p.1.t, .slice na p.1.ns.length nc, .slice ka p.2.list.length kc] 41)) := (Below.refl _ _).alloc (Nat.le_refl _) _
 obtain ⟨w1, HW1⟩ : ∃ w1, Hid (w.alloc (.cells #[.int .i64 p.1.k, .int .i64 p.1.n, .int .i64 p.1.s, .string p.1.t, .slice na p.1.ns.length nc, .slice ka p.2.list.length kc] 41) = w1) := ⟨_, rfl⟩
 have HC : Hid (∀ W, Below w1.heap.size w1 W -> Nd W w.heap.size 0 p.1 na nc ka p.2.list.length kc) := fun W hb => by rw [<- HW1.out] at hb; exact box_nd hb
 have HV : Hid (Vl w1 p na nc ka kc) := by have := hv.below b0; rw [HW1.out] at this; exact this
 have HB0 : Hid (Below w.heap.size w w1) := by rw [<- HW1.out]; exact b0
 have HC4 : Hid (∀ W, Below w1.heap.size w1 W -> W.cell? ⟨w.heap.size, 4, none⟩ = some (.slice na p.1.ns.length nc)) := fun W hb => (HC.out W hb).c4
 have HC5 : Hid (∀ W, Below w1.heap.size w1 W -> W.cell? ⟨w.heap.size, 5, none⟩ = some (.slice ka p.2.list.length kc)) := fun W hb => (HC.out W hb).c5
 generalize hKL : p.2.list.length = kl at *
 generalize hNL : p.1.ns.length = nl at *
 have HKL : Hid (p.2.list.length = kl) := hKL
 have HNL : Hid (p.1.ns.length = nl) := hNL
 have HFm : Hid (formed p.1 kl = (decide (p.1.n = 0) && decide (p.1.s = 0) && decide (p.1.t.toList = []))) := by
  show _ = _
  simp [formed, hk, only, em_dec]
 have HNm : Hid (named p.1.ns kl = (decide (nl = kl) && rises (prev p.1.ns 0) (p.1.ns.drop 0))) := by
  show _ = _
  rw [named, hNL]; rfl
 clear hKL hNL HC
 by_cases hE : p.1.n = 0 /\ p.1.s = 0 /\ p.1.t.toList = []
 case neg =>
  have HF := HNo.out (by rw [HFm.out]; simp; intro h1 h2 h3; exact hE ⟨h1, h2, h3⟩)
  clear hv ih hwf b0
  subst HF
  clear HC4 HC5 HV HI HW HNo HMany HYes HW1 HB0 HKL HNL HFm HNm HBad
  go_enter Tryz.func44, Tryz.ntmps44
  go_wp2
  all_goals first
   | (go_ret; exact ⟨rfl, (Below.refl _ _).alloc (Nat.le_refl _) _⟩)
   | (exfalso; apply hE; simp_all)
 obtain ⟨hn, hs, ht⟩ := hE
 have hfm : formed p.1 kl = true := by rw [HFm.out]; simp [hn, hs, ht]
 by_cases hL : 200 < kl
 . have HF := HMany.out hfm hL
   clear hv ih hwf b0
   subst HF
   clear HC4 HC5 HV HI HW HNo HMany HYes HW1 HB0 hfm HKL HNL HFm HNm HBad
   have hL2 : decide ((200 : Int) < (kl : Int)) = true := by simp; omega
   go_enter Tryz.func44, Tryz.ntmps44
   go_wp2
   all_goals first
    | (go_ret; exact ⟨rfl, (Below.refl _ _).alloc (Nat.le_refl _) _⟩)
    | (exfalso; omega)
 by_cases hEq : nl = kl
 case neg =>
  have HF := HBad.out hfm ht (by omega) (by rw [HNm.out]; simp [hEq])
  clear hv ih hwf b0
  subst HF
  clear HC4 HC5 HV HI HW HNo HMany HYes HW1 HB0 hfm HKL HNL HFm HNm HBad
  have hL2 : ((nl : Int) != (kl : Int)) = true := by simp; omega
  go_enter Tryz.func44, Tryz.ntmps44
  go_wp2
  all_goals first
   | (go_ret; exact ⟨rfl, (Below.refl _ _).alloc (Nat.le_refl _) _⟩)
   | (exfalso; omega)
 subst hEq
 have HNm2 : Hid (named p.1.ns nl = rises (prev p.1.ns 0) (p.1.ns.drop 0)) := by
  show _ = _
  rw [HNm.out]; simp
 have HB3 : Hid (named p.1.ns nl = false -> 3 = R) := HBad.out hfm ht (by omega)
 have HY3 : Hid (named p.1.ns nl = true -> R = chk (p.2.drop 0) (d + 1)) := HYes.out hfm ht (by omega)
 clear hv ih hwf b0 HNo HMany HYes hfm HFm HNm HBad
 by_cases h0 : nl = 0
 case pos =>
  go_enter Tryz.func44, Tryz.ntmps44
  go_wp2
  generalize hWW : World.alloc w _ = W1
  obtain rfl : w1 = W1 := by rw [<- hWW, <- HW1.out]; simp [*]
  clear hWW HW1
  go_loopw [7] (fun i wr => ∃ k : Nat, k <= nl /\ i = .int .i64 (k : Int) /\ Hid (Below w1.heap.size w1 wr) /\ Hid (named p.1.ns nl = rises (prev p.1.ns k) (p.1.ns.drop k))) (fun i _ => nl - (intOf i).toNat)
  case atStart => exact ⟨0, by omega, rfl, Below.refl _ _, HNm2.out⟩
  case round =>
   obtain ⟨k, hk0, rfl, HBx, HNk⟩ := hrel
   have c4 := HC4.out wr HBx.out
   have hlt : ¬ k < nl := by omega
   have HR : Hid (R = chk (p.2.drop 0) (d + 1)) := HY3.out (by rw [HNk.out, List.drop_of_length_le (by rw [HNL.out]; omega)]; rfl)
   go_wp2
   go_loopw [8, 9] (fun i _ wr => ∃ k : Nat, k <= nl /\ i = .int .i64 (k : Int) /\ Hid (Below w1.heap.size w1 wr) /\ Hid (R = chk (p.2.drop k) (d + 1))) (fun i _ _ => nl - (intOf i).toNat)
   case atStart => exact ⟨0, by omega, rfl, HBx.out, HR.out⟩
   case round =>
    obtain ⟨k, hk0, rfl, HB, HRk⟩ := hrel
    have c5 := HC5.out wr HB.out
    have hlt : ¬ k < nl := by omega
    go_wp2
    go_ret
    exact ⟨ret_int (by rw [HRk.out, Fo.drop_end _ _ (by rw [HKL.out]; omega)]; rfl), HB0.out.trans (HB.out.mono HB0.out.size)⟩
 case neg =>
  go_enter Tryz.func44, Tryz.ntmps44
  go_wp2
  generalize hWW : World.alloc w _ = W1
  obtain rfl : w1 = W1 := by rw [<- hWW, <- HW1.out]; simp [*]
  clear hWW HW1
  go_loopw [7] (fun i wr => ∃ k : Nat, k <= nl /\ i = .int .i64 (k : Int) /\ Hid (Below w1.heap.size w1 wr) /\ Hid (named p.1.ns nl = rises (prev p.1.ns k) (p.1.ns.drop k))) (fun i _ => nl - (intOf i).toNat)
  case atStart => exact ⟨0, by omega, rfl, Below.refl _ _, HNm2.out⟩
  case round =>
   obtain ⟨k, hk0, rfl, HBx, HNk⟩ := hrel
   have c4 := HC4.out wr HBx.out
   by_cases hlt : k < nl
   case neg =>
    have HR : Hid (R = chk (p.2.drop 0) (d + 1)) := HY3.out (by rw [HNk.out, List.drop_of_length_le (by rw [HNL.out]; omega)]; rfl)
    clear HNk
    go_wp2
    go_loopw [8, 9] (fun i _ wr => ∃ k : Nat, k <= nl /\ i = .int .i64 (k : Int) /\ Hid (Below w1.heap.size w1 wr) /\ Hid (R = chk (p.2.drop k) (d + 1))) (fun i _ _ => nl - (intOf i).toNat)
    case atStart => exact ⟨0, by omega, rfl, HBx.out, HR.out⟩
    case round =>
     obtain ⟨k, hk0, rfl, HB, HRk⟩ := hrel
     have c5 := HC5.out wr HB.out
     by_cases hlt : k < nl
     case neg =>
      go_wp2
      go_ret
      exact ⟨ret_int (by rw [HRk.out, Fo.drop_end _ _ (by rw [HKL.out]; omega)]; rfl), HB0.out.trans (HB.out.mono HB0.out.size)⟩
     obtain ⟨q, b, o, na', nc', ka', kc', hq, rfl, hnd, hvl⟩ := HV.out.kid HB.out (k := k) (by rw [HKL.out]; exact hlt)
     have HQ := HI.out q (wt_kid (List.mem_of_getElem? hq)) (HW.out.kid (List.mem_of_getElem? hq)) na' nc' ka' kc' (d + 1) wr (by omega) (by omega) hvl
     have HS : Hid (R = if chkV q (d + 1) ≠ 0 then chkV q (d + 1) else chk (p.2.drop (k + 1)) (d + 1)) := HRk.out.trans (chk_step hq)
     obtain ⟨d0, d1, d2, d3, d4, d5⟩ := hnd
     generalize chkV q (d + 1) = E at *
     clear hvl hq HRk
     go_wp2_with fail
     refine HQ.mono ?_
     rintro e w2 ⟨rfl, hb2⟩
     have HB2 : Hid (Below w1.heap.size w1 w2) := HB.out.trans (hb2.mono HB.out.size)
     clear HQ hb2
     by_cases hE : E = 0
     . subst hE
       go_wp2
       go_roundw
       case rel => exact ⟨k + 1, by omega, by go_num, HB2.out, show R = _ by simpa using HS.out⟩
       case measure => simp [intOf]; omega
     . go_wp2
       go_ret
       exact ⟨ret_int (by rw [HS.out, if_pos hE]), HB0.out.trans (HB2.out.mono HB0.out.size)⟩
   have hlt2 : k < p.1.ns.length := by rw [HNL.out]; exact hlt
   obtain ⟨x, hx⟩ : ∃ x, p.1.ns[k]? = some x := ⟨_, List.getElem?_eq_getElem hlt2⟩
   have HD : Hid (p.1.ns.drop k = x :: p.1.ns.drop (k + 1)) := by
    have := List.drop_eq_getElem_cons hlt2
    rw [List.getElem?_eq_getElem hlt2] at hx
    show _ = _
    rw [this, Option.some.inj hx]
   have HPx : Hid (prev p.1.ns (k + 1) = x) := prev_next hx
   have hxs : x.size <= 140737488355328 := HW.out.1.e1 x (List.mem_of_getElem? hx)
   obtain ⟨b, o, rfl, hc⟩ : ∃ b o, na = some ⟨b, o, none⟩ /\ ∀ i x, p.1.ns[i]? = some x -> wr.cell? ⟨b, o + i, none⟩ = some (.string x) := by
    rcases HV.out.nms.below HBx.out with e | h
    . rw [e] at hlt2; simp at hlt2
    . exact h
   have cx := hc k x hx
   have HBd : Hid (∀ q, Below w1.heap.size w1 (wr.drewN q)) := fun q => HBx.out.trans (below_dq _ _)
   clear hlt2 hx
   by_cases hA : x.size < 1
   . have hA2 : decide ((x.size : Int) < 1) = true := by simp; omega
     have HF := HB3.out (by rw [HNk.out, HD.out]; exact rise_nil hA)
     clear hc
     go_wp2
     go_quiet (fail)
     go_wp2
     go_ret
     exact ⟨ret_int HF, HB0.out.trans ((HBd.out _).mono HB0.out.size)⟩
   have hA2 : decide ((x.size : Int) < 1) = false := by simp; omega
   by_cases hB : 40 < x.size
   . have hB2 : decide (40 < (x.size : Int)) = true := by simp; omega
     have HF := HB3.out (by rw [HNk.out, HD.out]; exact rise_long hB)
     clear hc
     go_wp2
     go_quiet (fail)
     go_wp2
     go_ret
     exact ⟨ret_int HF, HB0.out.trans ((HBd.out _).mono HB0.out.size)⟩
   have hB2 : decide (40 < (x.size : Int)) = false := by simp; omega
   by_cases hk1 : k = 0
   . subst hk1
     have HN2 : Hid (named p.1.ns nl = rises (prev p.1.ns (0 + 1)) (p.1.ns.drop (0 + 1))) := by
      show _ = _
      rw [HNk.out, HD.out, HPx.out]
      exact rise_first hA hB
     clear hc
     simp only [Nat.add_zero] at cx
     go_wp2
     go_quiet (fail)
     go_wp2
     go_roundw
     case rel => exact ⟨1, by omega, by go_num, HBd.out _, HN2.out⟩
     case measure => simp [intOf]; omega
   obtain ⟨y, hy⟩ : ∃ y, p.1.ns[k - 1]? = some y := ⟨_, List.getElem?_eq_getElem (by rw [HNL.out]; omega)⟩
   have HPy : Hid (prev p.1.ns k = y) := by
    show _ = _
    simp [prev, hk1, List.getD_eq_getElem?_getD, hy]
   have cy := hc (k - 1) y hy
   have hkp : 0 < k := by omega
   have hkp2 : decide (0 < (k : Int)) = true := by simp; omega
   have hky2 : IntKind.i64.wrap ((k : Int) - 1) = ((k - 1 : Nat) : Int) := by rw [IntKind.wrap_i64]; omega
   clear hc hy
   cases hP : Op.bytesLess x.toList y.toList <;> cases hQ : (x.toList == y.toList)
   . have HN2 : Hid (named p.1.ns nl = rises (prev p.1.ns (k + 1)) (p.1.ns.drop (k + 1))) := by
      show _ = _
      rw [HNk.out, HD.out, HPx.out, HPy.out]
      simp [rises, hP, hQ, hB]
     go_wp2
     go_quiet (fail)
     go_wp2
     go_roundw
     case rel => exact ⟨k + 1, by omega, by go_num, HBd.out _, HN2.out⟩
     case measure => simp [intOf]; omega
   all_goals
    have HF := HB3.out (by rw [HNk.out, HD.out, HPy.out]; simp [rises, hP, hQ])
    go_wp2
    go_quiet (fail)
    go_wp2
    go_ret
    exact ⟨ret_int HF, HB0.out.trans ((HBd.out _).mono HB0.out.size)⟩
end Go.Proofs.YtpfiejmhnkcjbaaGreatDoor
namespace Go.Proofs.YtpfiejmhnkcjbaaGreatDoor
set_option maxHeartbeats 4000000
set_option maxRecDepth 8000
open Go.RowKit
set_option linter.unusedVariables false
theorem vcheck_step (p : Vt) (ih : RIh 159 p) (hwf : WfV p) (na : Option Addr) (nc : Nat) (ka : Option Addr) (kc : Nat) (d : Int) (hd0 : 0 <= d) (hd1 : d <= 17) (w : World) (hv : Vl w p na nc ka kc) :
 Calls Tryz.prog 159 #[.agg #[.int .i64 p.1.k, .int .i64 p.1.n, .int .i64 p.1.s, .string p.1.t, .slice na p.1.ns.length nc, .slice ka p.2.list.length kc], .int .i64 d] w fun e w' => e = .returned (.int .i64 (chkV p d)) /\ Below w.heap.size w w' := by
 by_cases hd : d <= 16
 case neg =>
  go_enter Tryz.func159, Tryz.ntmps159
  go_wp2
  go_ret
  exact ⟨ret_int (by rw [chkV, if_pos (by omega)]), (Below.refl _ _).alloc (Nat.le_refl _) _⟩
 have HI : Hid (RIh 159 p) := ih
 have HW : Hid (WfV p) := hwf
 have hkl := hwf.2.1
 have htl := hwf.1.t1
 have b0 : Below w.heap.size w (w.alloc (.cells #[.int .i64 p.1.k, .int .i64 p.1.n, .int .i64 p.1.s, .string p.1.t, .slice na p.1.ns.length nc, .slice ka p.2.list.length kc] 41)) := (Below.refl _ _).alloc (Nat.le_refl _) _
 have HV : Hid (Vl (w.alloc (.cells #[.int .i64 p.1.k, .int .i64 p.1.n, .int .i64 p.1.s, .string p.1.t, .slice na p.1.ns.length nc, .slice ka p.2.list.length kc] 41)) p na nc ka kc) := hv.below b0
 have HB0 : Hid _ := b0
 have HF : Hid (∀ W, Calls Tryz.prog 173 #[.agg #[.int .i64 p.1.k, .int .i64 p.1.n, .int .i64 p.1.s, .string p.1.t, .slice na p.1.ns.length nc, .slice ka p.2.list.length kc]] W fun e w' => e = .returned (.bool (formed p.1 p.2.list.length)) /\ Below W.heap.size W w') := fun W => formed_any p.1 na nc ka p.2.list.length kc W
 have HN : Hid (∀ W, Nms W na p.1.ns -> Calls Tryz.prog 174 #[.agg #[.int .i64 p.1.k, .int .i64 p.1.n, .int .i64 p.1.s, .string p.1.t, .slice na p.1.ns.length nc, .slice ka p.2.list.length kc]] W fun e w' => e = .returned (.bool (named p.1.ns p.2.list.length)) /\ Below W.heap.size W w') := fun W h => named_any p.1 na nc ka p.2.list.length kc W h hwf.1.c1 hwf.1.e1
 have HC : Hid (∀ W, Below (w.alloc (.cells #[.int .i64 p.1.k, .int .i64 p.1.n, .int .i64 p.1.s, .string p.1.t, .slice na p.1.ns.length nc, .slice ka p.2.list.length kc] 41)).heap.size (w.alloc (.cells #[.int .i64 p.1.k, .int .i64 p.1.n, .int .i64 p.1.s, .string p.1.t, .slice na p.1.ns.length nc, .slice ka p.2.list.length kc] 41)) W -> Nd W w.heap.size 0 p.1 na nc ka p.2.list.length kc) := fun W hb =>
  ⟨box_get (six p.1 na nc ka p.2.list.length kc) 41 hb 0 _ rfl, box_get (six p.1 na nc ka p.2.list.length kc) 41 hb 1 _ rfl, box_get (six p.1 na nc ka p.2.list.length kc) 41 hb 2 _ rfl, box_get (six p.1 na nc ka p.2.list.length kc) 41 hb 3 _ rfl, box_get (six p.1 na nc ka p.2.list.length kc) 41 hb 4 _ rfl, box_get (six p.1 na nc ka p.2.list.length kc) 41 hb 5 _ rfl⟩
 clear hv ih hwf b0
 go_enter Tryz.func159, Tryz.ntmps159
 go_wp2_with fail
 generalize (w.alloc (.cells #[.int .i64 p.1.k, .int .i64 p.1.n, .int .i64 p.1.s, .string p.1.t, .slice na p.1.ns.length nc, .slice ka p.2.list.length kc] 41)) = w1 at *
 refine (HF.out w1).mono ?_
 rintro e w2 ⟨rfl, hb2⟩
 have HB2 : Hid (Below w1.heap.size w1 w2) := hb2
 obtain ⟨c0, c1, c2, c3, c4, c5⟩ := HC.out w2 hb2
 simp only [Nat.zero_add] at c1 c2 c3 c4 c5
 clear hb2 HF
 cases hf : formed p.1 p.2.list.length with
 | false =>
   go_wp2
   go_ret
   exact ⟨ret_int ((own_no hf).trans (chkV_own hd (by rw [<- own_no hf]; decide))), HB0.out.trans (HB2.out.mono HB0.out.size)⟩
 | true =>
 by_cases hT : 16384 < p.1.t.size ∨ 200 < p.2.list.length
 . have hO : 5 = own p.1 p.2.list.length := by simp only [own, hf, if_true]; rw [if_pos hT]
   have HO : Hid (5 = chkV p d) := hO.trans (chkV_own hd (by rw [<- hO]; decide))
   clear hO
   by_cases hT2 : 16384 < p.1.t.size
   . go_wp2
     go_ret
     exact ⟨ret_int HO.out, HB0.out.trans (HB2.out.mono HB0.out.size)⟩
   . have hT3 : 200 < p.2.list.length := by omega
     go_wp2
     go_ret
     exact ⟨ret_int HO.out, HB0.out.trans (HB2.out.mono HB0.out.size)⟩
 have hT2 : ¬ 16384 < p.1.t.size := by omega
 have hT3 : ¬ 200 < p.2.list.length := by omega
 by_cases hk9 : p.1.k = 9
 . have HK9 : Hid (p.1.k = 9) := hk9
   have hkb : (p.1.k == 9) = true := by simp [hk9]
   clear hk9
   go_wp2_with fail
   refine (HN.out w2 (HV.out.nms.below HB2.out)).mono ?_
   rintro e w3 ⟨rfl, hb3⟩
   have HB3 : Hid (Below w1.heap.size w1 w3) := HB2.out.trans (hb3.mono HB2.out.size)
   have d5 := (HC.out w3 HB3.out).c5
   simp only [Nat.zero_add] at d5
   clear hb3
   cases hnm : named p.1.ns p.2.list.length with
   | false =>
     have hO : 3 = own p.1 p.2.list.length := by
      simp only [own, hf, if_true]
      rw [if_neg hT, if_pos ⟨HK9.out, hnm⟩]
     have HO : Hid (3 = chkV p d) := hO.trans (chkV_own hd (by rw [<- hO]; decide))
     clear hO HB2
     go_wp2
     go_ret
     exact ⟨ret_int HO.out, HB0.out.trans (HB3.out.mono HB0.out.size)⟩
   | true =>
     have HR : Hid (chkV p d = chk (p.2.drop 0) (d + 1)) := chkV_kids hd (by
      simp only [own, hf, if_true]
      rw [if_neg hT, if_neg (by simp [hnm])])
     have HB2 : Hid (Below w1.heap.size w1 w3) := HB3.out
     clear HB3
     go_wp2
     go_loopw [34] (fun i wr => ∃ k : Nat, k <= p.2.list.length /\ i = .int .i64 (k : Int) /\ Hid (Below w1.heap.size w1 wr) /\ Hid (chkV p d = chk (p.2.drop k) (d + 1))) (fun i _ => p.2.list.length - (intOf i).toNat)
     case atStart => exact ⟨0, by omega, rfl, HB2.out, HR.out⟩
     case round =>
      obtain ⟨k, hk0, rfl, HB, HRk⟩ := hrel
      by_cases hlt : k < p.2.list.length
      case neg =>
       go_wp2
       go_ret
       exact ⟨ret_int (by rw [HRk.out, Fo.drop_end _ _ (by omega)]; rfl), HB0.out.trans (HB.out.mono HB0.out.size)⟩
      obtain ⟨q, b, o, na', nc', ka', kc', hq, rfl, hnd, hvl⟩ := HV.out.kid HB.out (k := k) hlt
      have HQ := HI.out q (wt_kid (List.mem_of_getElem? hq)) (HW.out.kid (List.mem_of_getElem? hq)) na' nc' ka' kc' (d + 1) (wr.alloc (.cells #[.int .i64 q.1.k, .int .i64 q.1.n, .int .i64 q.1.s, .string q.1.t, .slice na' q.1.ns.length nc', .slice ka' q.2.list.length kc'] 41)) (by omega) (by omega) (hvl.below ((Below.refl _ _).alloc (Nat.le_refl _) _))
      have HS : Hid (chkV p d = if chkV q (d + 1) ≠ 0 then chkV q (d + 1) else chk (p.2.drop (k + 1)) (d + 1)) := HRk.out.trans (chk_step hq)
      obtain ⟨d0, d1, d2, d3, d4, d5⟩ := hnd
      generalize chkV q (d + 1) = E at *
      clear hvl hq HRk
      go_wp2_with fail
      refine HQ.mono ?_
      rintro e w3 ⟨rfl, hb3⟩
      have HB3 : Hid (Below w1.heap.size w1 w3) := HB.out.trans ((box_below _ hb3).mono HB.out.size)
      clear HQ hb3
      by_cases hE : E = 0
      . subst hE
        go_wp2
        go_roundw
        case rel => exact ⟨k + 1, by omega, by go_num, HB3.out, show chkV p d = _ by simpa using HS.out⟩
        case measure => simp [intOf]; omega
      . go_wp2
        go_ret
        exact ⟨ret_int (by rw [HS.out, if_pos hE]), HB0.out.trans (HB3.out.mono HB0.out.size)⟩
 . have HR : Hid (chkV p d = chk (p.2.drop 0) (d + 1)) := chkV_kids hd (by
    simp only [own, hf, if_true]
    rw [if_neg hT, if_neg (by simp [hk9])])
   go_wp2
   go_loopw [34] (fun i wr => ∃ k : Nat, k <= p.2.list.length /\ i = .int .i64 (k : Int) /\ Hid (Below w1.heap.size w1 wr) /\ Hid (chkV p d = chk (p.2.drop k) (d + 1))) (fun i _ => p.2.list.length - (intOf i).toNat)
   case atStart => exact ⟨0, by omega, rfl, HB2.out, HR.out⟩
   case round =>
    obtain ⟨k, hk0, rfl, HB, HRk⟩ := hrel
    by_cases hlt : k < p.2.list.length
    case neg =>
     go_wp2
     go_ret
     exact ⟨ret_int (by rw [HRk.out, Fo.drop_end _ _ (by omega)]; rfl), HB0.out.trans (HB.out.mono HB0.out.size)⟩
    obtain ⟨q, b, o, na', nc', ka', kc', hq, rfl, hnd, hvl⟩ := HV.out.kid HB.out (k := k) hlt
    have HQ := HI.out q (wt_kid (List.mem_of_getElem? hq)) (HW.out.kid (List.mem_of_getElem? hq)) na' nc' ka' kc' (d + 1) (wr.alloc (.cells #[.int .i64 q.1.k, .int .i64 q.1.n, .int .i64 q.1.s, .string q.1.t, .slice na' q.1.ns.length nc', .slice ka' q.2.list.length kc'] 41)) (by omega) (by omega) (hvl.below ((Below.refl _ _).alloc (Nat.le_refl _) _))
    have HS : Hid (chkV p d = if chkV q (d + 1) ≠ 0 then chkV q (d + 1) else chk (p.2.drop (k + 1)) (d + 1)) := HRk.out.trans (chk_step hq)
    obtain ⟨d0, d1, d2, d3, d4, d5⟩ := hnd
    generalize chkV q (d + 1) = E at *
    clear hvl hq HRk
    go_wp2_with fail
    refine HQ.mono ?_
    rintro e w3 ⟨rfl, hb3⟩
    have HB3 : Hid (Below w1.heap.size w1 w3) := HB.out.trans ((box_below _ hb3).mono HB.out.size)
    clear HQ hb3
    by_cases hE : E = 0
    . subst hE
      go_wp2
      go_roundw
      case rel => exact ⟨k + 1, by omega, by go_num, HB3.out, show chkV p d = _ by simpa using HS.out⟩
      case measure => simp [intOf]; omega
    . go_wp2
      go_ret
      exact ⟨ret_int (by rw [HS.out, if_pos hE]), HB0.out.trans (HB3.out.mono HB0.out.size)⟩
theorem vcheck_any : ∀ (n : Nat) (p : Vt), wt p <= n -> WfV p -> ∀ (na : Option Addr) (nc : Nat) (ka : Option Addr) (kc : Nat) (d : Int) (W : World), 0 <= d -> d <= 17 -> Vl W p na nc ka kc ->
 Calls Tryz.prog 159 #[.agg #[.int .i64 p.1.k, .int .i64 p.1.n, .int .i64 p.1.s, .string p.1.t, .slice na p.1.ns.length nc, .slice ka p.2.list.length kc], .int .i64 d] W fun e w' => e = .returned (.int .i64 (chkV p d)) /\ Below W.heap.size W w' := by
 intro n
 induction n with
 | zero => intro p hp; exfalso; unfold wt at hp; omega
 | succ n ih =>
   intro p hp hwf na nc ka kc d W hd0 hd1 hv
   exact vcheck_step p (fun q hq hwq na nc ka kc d W h1 h2 h3 => ih q (by omega) hwq na nc ka kc d W h1 h2 h3) hwf na nc ka kc d hd0 hd1 W hv
def CkC (F : Nat) : Prop := ∀ (p : Vt), WfV p -> ∀ (na : Option Addr) (nc : Nat) (ka : Option Addr) (kc : Nat) (W : World), Vl W p na nc ka kc ->
    Calls Tryz.prog F #[.agg #[.int .i64 p.1.k, .int .i64 p.1.n, .int .i64 p.1.s, .string p.1.t, .slice na p.1.ns.length nc, .slice ka p.2.list.length kc]] W fun e w' => e = .returned (.int .i64 (chkV p 1)) /\ Below W.heap.size W w'
theorem vCheck_any : CkC 137 := by
 intro p hwf na nc ka kc W hv
 have HQ : Hid (∀ W', Vl W' p na nc ka kc -> Calls Tryz.prog 159 #[.agg #[.int .i64 p.1.k, .int .i64 p.1.n, .int .i64 p.1.s, .string p.1.t, .slice na p.1.ns.length nc, .slice ka p.2.list.length kc], .int .i64 1] W' fun e w' => e = .returned (.int .i64 (chkV p 1)) /\ Below W'.heap.size W' w') := fun W' h => vcheck_any _ p (Nat.le_refl _) hwf na nc ka kc 1 W' (by omega) (by omega) h
 generalize chkV p 1 = E at *
 have HV : Hid (Vl W p na nc ka kc) := hv
 clear hv
 go_enter Tryz.func137, Tryz.ntmps137
 go_wp2_with fail
 refine (HQ.out _ (HV.out.below ((Below.refl _ _).alloc (Nat.le_refl _) _))).mono ?_
 rintro e w2 ⟨rfl, hb2⟩
 have HB : Hid (Below W.heap.size W w2) := box_below _ hb2
 clear hb2 HQ
 go_wp2
 go_ret
 exact ⟨rfl, HB.out⟩
end Go.Proofs.YtpfiejmhnkcjbaaGreatDoor
