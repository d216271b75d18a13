/-
  What the law CodecBack leans on.
-/
import Derived.Test.YtimddoaejldgaaaXq
import Derived.Test.YtimddoaejldgaaaYo
namespace Go.Proofs.Ytimddoaejldgaaa
open Go.RowKit Go.ChangeShapes Go.WideShapes Math
set_option linter.unusedVariables false
set_option linter.unusedSimpArgs false
set_option maxRecDepth 8000 in
set_option maxHeartbeats 4000000 in
theorem great_big (p : Vt) (hwf : WfV p) (na : Option Addr) (nc : Nat) (ka : Option Addr) (kc : Nat) (g m : Nat) (w0 W : World) (hv : Vl w0 p na nc ka kc) (hb : Below w0.heap.size w0 W) (hg : w0.heap.size ≤ g) (hm : Blk W g 3 [.int .i64 (m : Int)]) (hm2 : m ≤ 150000000000000) (hm3 : 3000 < m) :
    Calls Try.prog 8 #[.agg #[.int .i64 p.1.k, .int .i64 p.1.n, .int .i64 p.1.s, .string p.1.t, .slice na p.1.ns.length nc, .slice ka p.2.list.length kc], .pointer (some ⟨g, 0, none⟩)] W fun e W' => e = .returned (.bool true) ∧ Hid (W.grownBy W' (some g)) := by
  have hkl := hwf.2.1
  have htl := hwf.1.t1
  have hnl := hwf.1.c1
  obtain ⟨W1, HW1⟩ : ∃ W1, Hid (W.alloc (.cells #[.int .i64 p.1.k, .int .i64 p.1.n, .int .i64 p.1.s, .string p.1.t, .slice na p.1.ns.length nc, .slice ka p.2.list.length kc] 25) = W1) := ⟨_, rfl⟩
  have bx : Blk W1 W.heap.size 25 (six p.1 na nc ka p.2.list.length kc) := by rw [← HW1.out]; exact blk_new W 25 _
  have bm : Blk W1 g 3 [.int .i64 (m : Int)] := by rw [← HW1.out]; exact hm.alloc _
  have g1 : W.grownBy W1 none := by rw [← HW1.out]; exact World.grownBy_alloc W _ none
  have hne : g ≠ W.heap.size := Nat.ne_of_lt hm.lt
  have c0 : W1.cell? ⟨g, 0, none⟩ = some (.int .i64 (m : Int)) := bm.cell 0
  have c3 : W1.cell? ⟨W.heap.size, 3, none⟩ = some (.string p.1.t) := bx.cell 3
  have c4 : W1.cell? ⟨W.heap.size, 4, none⟩ = some (.slice na p.1.ns.length nc) := bx.cell 4
  have fr : W1.frozen? ⟨g, 0, none⟩ = false := bm.frozen 0
  have HS : Hid (ws p = wsH p.1 + p.2.ws) := rfl
  have HSh : Hid (wsH p.1 = 1 + p.1.t.size / 20 + p.1.ns.length) := rfl
  have HW : Hid (WfV p) := hwf
  have HV : Hid (Vl w0 p na nc ka kc) := hv
  have HB : Hid (Below w0.heap.size w0 W) := hb
  have HBx : Hid (Blk W1 W.heap.size 25 (six p.1 na nc ka p.2.list.length kc)) := bx
  have HBm : Hid (Blk W1 g 3 [.int .i64 (m : Int)]) := bm
  have HG1 : Hid (W.grownBy W1 none) := g1
  generalize ws p = WS at *
  clear hwf hv hb bx bm g1 hm
  go_enter Try.func8, Try.ntmps8
  go_wp2
  generalize hWW : World.alloc W _ = W2
  obtain rfl : W1 = W2 := by rw [← hWW, ← HW1.out]
  clear hWW HW1
  obtain ⟨m1, HM1⟩ : ∃ m1 : Nat, Hid (m1 = m + 1 + p.1.t.size / 20 + p.1.ns.length) := ⟨_, rfl⟩
  have hm1 : m1 ≤ 1000000000000000 := by rw [HM1.out]; omega
  have HX : Hid ((m : Int) + 1 + (p.1.t.size : Int) / 20 + (p.1.ns.length : Int) = (m1 : Int)) := by
    show _ = _
    rw [HM1.out]
    omega
  go_region
  all_goals go_wp2
  rw [HX.out]
  obtain ⟨W2, HW2⟩ : ∃ W2, Hid ((W1.setCell ⟨g, 0, none⟩ (.int .i64 (m1 : Int))).drew = W2) := ⟨_, rfl⟩
  rw [HW2.out]
  have HG2 : Hid (W1.grownBy W2 (some g)) := by
    rw [← HW2.out]
    have h := grown_setCell W1 ⟨g, 0, none⟩ (.int .i64 (m1 : Int))
    exact ⟨h.os, h.tape, h.output, h.size, h.block⟩
  have HB2 : Hid (Blk W2 g 3 [.int .i64 (m1 : Int)]) := by
    rw [← HW2.out]
    exact HBm.out.set 0 (.int .i64 (m1 : Int))
  have HX2 : Hid (Blk W2 W.heap.size 25 (six p.1 na nc ka p.2.list.length kc)) := HBx.out.kept HG2.out (fun e => hne (Option.some.inj e).symm)
  have HBw : Hid (Below w0.heap.size w0 W2) := (HB.out.grown HG1.out HB.out.size (fun k e => by cases e)).grown HG2.out (Nat.le_trans HB.out.size HG1.out.size) (fun k e => by cases e; exact hg)
  have HGW : Hid (W.grownBy W2 (some g)) := by
    have h1 := HG1.out
    have h2 := HG2.out
    exact ⟨h2.os.trans h1.os, h2.tape.trans h1.tape, h2.output.trans h1.output, Nat.le_trans h1.size h2.size, fun k hk hne => (h2.block k (Nat.lt_of_lt_of_le hk h1.size) hne).trans (h1.block k hk (by simp))⟩
  clear HW2 HX c0 c3 c4 fr HBx HBm HG1 HG2
  have hm13 : 3000 < m1 := by rw [HM1.out]; omega
  go_loopw [5] (fun i wr => i = .int .i64 0 ∧ wr = W2) (fun _ _ => 0)
  case atStart => exact ⟨rfl, rfl⟩
  case round =>
    obtain ⟨rfl, rfl⟩ := hrel
    have cg : wr.cell? ⟨g, 0, none⟩ = some (.int .i64 (m1 : Int)) := HB2.out.cell 0
    have c5 : wr.cell? ⟨W.heap.size, 5, none⟩ = some (.slice ka p.2.list.length kc) := HX2.out.cell 5
    have h3 : decide ((m1 : Int) ≤ 3000) = false := by simp; omega
    have h4 : decide ((3000 : Int) < (m1 : Int)) = true := by simp; omega
    by_cases h1 : 0 < p.2.list.length
    · have h1b : decide ((0 : Int) < (p.2.list.length : Int)) = true := decide_eq_true (by omega)
      go_wp2
      go_ret
      exact ⟨rfl, HGW.out⟩
    · have h1b : decide ((0 : Int) < (p.2.list.length : Int)) = false := decide_eq_false (by omega)
      go_wp2
      go_ret
      exact ⟨rfl, HGW.out⟩
theorem dec_self {p : Vt} (hw : WfV p) (he : encE p = 0) : decE (encV p) = 0 ∧ decP (encV p) = p := by
  obtain ⟨h1, h2, h3⟩ := enc_ok he
  have h := enc_back p hw h1 []
  rw [List.append_nil] at h
  have e : decE (encV p) = 0 := by
    unfold decE
    rw [h]
    simp only
    rw [if_neg (by simpa using chk1 h1), if_neg (by simp), if_neg (by omega)]
  refine ⟨e, ?_⟩
  unfold decP
  rw [h]
  simp only
  rw [e]
  rfl
theorem rea_self {p : Vt} (hw : WfV p) (he : encE p = 0) (m : List Nat) : reaE (encV p ++ m) = 0 ∧ reaP (encV p ++ m) = p ∧ reaN (encV p ++ m) = (encV p).length := by
  obtain ⟨h1, h2, h3⟩ := enc_ok he
  have h := enc_back p hw h1 m
  have e : reaE (encV p ++ m) = 0 := by
    unfold reaE
    rw [h]
    simp only
    rw [if_neg (by simpa using chk1 h1), if_neg (by rw [List.length_append]; omega)]
  refine ⟨e, ?_, ?_⟩
  · unfold reaP
    rw [h]
    simp only
    rw [e]
    rfl
  · unfold reaN
    rw [h]
    simp only
    rw [e, if_pos rfl, List.length_append]
    omega
/-- No error is nought. -/
def Nz {α : Type} (f : Rdr α) : Prop := ∀ l, f l ≠ .error 0
theorem nz_ret {α : Type} (x : α) : Nz (Rdr.ret x) := fun l h => by cases h
theorem nz_no {α : Type} {e : Nat} (he : e ≠ 0) : Nz (Rdr.no (α := α) e) := fun l h => he (Except.error.inj h)
theorem nz_bind {α β : Type} {f : Rdr α} {g : α → Rdr β} (hf : Nz f) (hg : ∀ x, Nz (g x)) : Nz (f.bind g) := fun l h => by
  unfold Rdr.bind at h
  cases e : f l with
  | error x =>
    rw [e] at h
    simp only at h
    have : x = 0 := Except.error.inj h
    exact hf l (by rw [e, this])
  | ok v =>
    obtain ⟨x, m⟩ := v
    rw [e] at h
    exact hg x m h
theorem nz_if {α : Type} {p : Prop} [Decidable p] {f g : Rdr α} (hf : Nz f) (hg : Nz g) : Nz (if p then f else g) := by
  split
  · exact hf
  · exact hg
theorem nz_by : Nz byR := fun l h => by
  cases l with
  | nil => cases h
  | cons a b => cases h
theorem nz_uv : Nz uvR := fun l h => by
  unfold uvR at h
  split at h
  · cases h
  · rename_i c
    exact c (Except.error.inj h)
theorem nz_len : Nz lenR := nz_bind nz_uv fun u => nz_if (nz_no (by decide)) (nz_ret _)
theorem nz_take (n : Nat) : Nz (takeR n) := fun l h => by
  unfold takeR at h
  split at h
  · cases h
  · cases h
theorem nz_tx : Nz txR := nz_bind nz_len fun n => nz_bind (nz_take n) fun b => nz_ret _
theorem nz_N {g : Rdr Vt} (hg : Nz g) (b : Bool) : ∀ n, Nz (rdN g b n)
  | 0 => nz_ret _
  | n + 1 => nz_bind (nz_N hg b n) fun q => nz_if (nz_bind nz_tx fun s => nz_bind hg fun v => nz_ret _) (nz_bind hg fun v => nz_ret _)
theorem rd_nz : ∀ d, Nz (rdV d)
  | 0 => nz_no (by decide)
  | d + 1 => nz_bind nz_by fun k => by
    have ih := rd_nz d
    refine nz_if (nz_ret _) (nz_if (nz_bind nz_by fun x => nz_if (nz_no (by decide)) (nz_ret _)) (nz_if (nz_bind nz_uv fun u => nz_ret _) (nz_if (nz_bind nz_uv fun u => nz_bind nz_by fun x => nz_ret _) (nz_if (nz_bind nz_uv fun u => nz_ret _) (nz_if (nz_bind nz_tx fun u => nz_ret _) (nz_if (nz_bind nz_tx fun u => nz_ret _) (nz_if (nz_bind nz_len fun n => nz_bind (nz_N ih false n) fun q => nz_ret _) (nz_if (nz_bind nz_len fun n => nz_bind (nz_N ih true n) fun q => nz_ret _) (nz_no (by decide))))))))))
theorem dec_inv {l : List Nat} (ho : Oct l) (hl : l.length ≤ 65536) (h : decE l = 0) : WfV (decP l) ∧ encE (decP l) = 0 ∧ encB (decP l) = l := by
  have h0 := h
  unfold decE at h
  cases e : rdV 16 l with
  | error x =>
    rw [e] at h
    simp only at h
    have hx : x = 0 := by omega
    exact absurd e (by rw [hx]; exact rd_nz 16 l)
  | ok v =>
    obtain ⟨q, rest⟩ := v
    rw [e] at h
    simp only at h
    have eP : decP l = q := by
      unfold decP
      rw [e]
      simp only
      rw [h0]
      rfl
    rw [eP]
    have F := find_V 16 l q rest ho e
    by_cases hc : chk0V q = 0
    case neg => rw [if_pos hc] at h; exact absurd h hc
    rw [if_neg (by simpa using hc)] at h
    by_cases hr : rest = []
    case neg => rw [if_pos hr] at h; simp at h
    subst hr
    have hw := F.wr hc
    rw [List.append_nil] at hw
    have hd := F.dp
    have h1 : chkV q 1 = 0 := by rw [chkV_flat q 1 (by omega)]; exact hc
    obtain ⟨a, b⟩ := encE_yes h1 (by rw [← hw]; omega)
    exact ⟨F.wf, a, by rw [b, ← hw]⟩
end Go.Proofs.Ytimddoaejldgaaa
