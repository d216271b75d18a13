import Derived.Test.YtmbglggodifboaaGreatSG1x
import Derived.Test.YtmbglggodifboaaGreatRows
import Derived.WalkKit
import Derived.WalkSpells
import Derived.StillTactics
import Derived.Laws.Pointers
import Derived.RowKit3
import Derived.Below
import Derived.Deep.QuietTactic
import Derived.BigQuiet
import Derived.WalkSmall
import Derived.Laws.AppendOwnNone
import Derived.OpenShut
set_option maxHeartbeats 400000
set_option maxRecDepth 8000
set_option linter.unusedVariables false
namespace Go.Proofs.YtmbglggodifboaaGreat
open Go.RowKit Math
theorem by_inv {l r : List Nat} {x : Nat} (h : byR l = .ok (x, r)) : l = x :: r := by
 cases l with
 | nil => cases h
 | cons y l => obtain ⟨rfl, rfl⟩ := Prod.mk.inj (Except.ok.inj h); rfl
theorem len_inv {l r : List Nat} {n : Nat} (ho : Oct l) (h : lenR l = .ok (n, r)) : l = uv n ++ r /\ n <= 65536 := by
 obtain ⟨u, m, h1, h2⟩ := bind_inv h
 obtain ⟨rfl, _⟩ := uv_inv ho h1
 split at h2
 . cases h2
 . obtain ⟨rfl, rfl⟩ := Prod.mk.inj (Except.ok.inj h2)
   exact ⟨rfl, by omega⟩
theorem tx_inv {l r : List Nat} {s : ByteArray} (ho : Oct l) (h : txR l = .ok (s, r)) : l = txB s ++ r /\ s.size <= 65536 := by
 obtain ⟨n, m, h1, h2⟩ := bind_inv h
 obtain ⟨rfl, hn⟩ := len_inv ho h1
 obtain ⟨b, q, h3, h4⟩ := bind_inv h2
 unfold takeR at h3
 split at h3
 . cases h3
 . next hl =>
   obtain ⟨rfl, rfl⟩ := Prod.mk.inj (Except.ok.inj h3)
   obtain ⟨rfl, rfl⟩ := Prod.mk.inj (Except.ok.inj h4)
   have hs : (ofB (m.take n)).size = n := by rw [ofB_size, List.length_take]; omega
   have hb : bts (ofB (m.take n)) = m.take n := bts_ofB _ fun x hx => ho.right x (List.mem_of_mem_take hx)
   refine ⟨?_, by omega⟩
   unfold txB
   rw [hs, hb, List.append_assoc, List.take_append_drop]
theorem wf_snoc {p : Vt} (hp : WfV p) : ∀ {f : Fo}, Wf f -> Wf (f.snoc p)
 | .nil, _ => ⟨hp, trivial⟩
 | .cons h k r, hf => ⟨hf.1, wf_snoc hp hf.2⟩
structure Fnd (d : Nat) (l : List Nat) (p : Vt) (r : List Nat) : Prop where
 wf : WfV p
 dp : dpV p <= d
 wr : chk0V p = 0 -> l = encV p ++ r
structure FndN (d : Nat) (b : Bool) (n : Nat) (l : List Nat) (f : Fo) (ns : List ByteArray) (r : List Nat) : Prop where
 len : f.list.length = n
 nl : ns.length = if b then n else 0
 nz : ∀ x ∈ ns, x.size <= 65536
 wf : Wf f
 dp : dpF f <= d
 wr : chk0 f = 0 -> l = enc f b ns ++ r
theorem find_N {g : Rdr Vt} {d : Nat} (hg : Good g) (ih : ∀ l p r, Oct l -> g l = .ok (p, r) -> Fnd d l p r) (b : Bool) : ∀ (n : Nat) (l : List Nat) (f : Fo) (ns : List ByteArray) (r : List Nat), Oct l -> rdN g b n l = .ok ((f, ns), r) -> FndN d b n l f ns r
 | 0, l, f, ns, r, ho, h => by
   obtain ⟨e, rfl⟩ := Prod.mk.inj (Except.ok.inj h)
   obtain ⟨rfl, rfl⟩ := Prod.mk.inj e
   exact ⟨rfl, by simp, by simp, trivial, Nat.zero_le _, fun _ => rfl⟩
 | n + 1, l, f, ns, r, ho, h => by
   obtain ⟨⟨f0, ns0⟩, m, h1, h2⟩ := bind_inv h
   have A := find_N hg ih b n l f0 ns0 m ho h1
   obtain ⟨c, hc, _, _⟩ := good_N hg b n l _ m ho h1
   have hom : Oct m := by rw [hc] at ho; exact ho.right
   cases b
   . simp only [Bool.false_eq_true, if_false] at h2
     obtain ⟨v, q, h3, h4⟩ := bind_inv h2
     obtain ⟨e, rfl⟩ := Prod.mk.inj (Except.ok.inj h4)
     obtain ⟨rfl, rfl⟩ := Prod.mk.inj e
     have B := ih m v q hom h3
     refine ⟨by rw [snoc_list, List.length_append, A.len]; rfl, by simpa using A.nl, A.nz, wf_snoc B.wf A.wf, by rw [dp_snoc]; have := A.dp; have := B.dp; omega, fun hk => ?_⟩
     rw [chk0_snoc] at hk
     by_cases k0 : chk0 f0 = 0
     . rw [if_neg (by simpa using k0)] at hk
       have e := enc_snoc v em f0 false ns0 (by simp)
       simp only [Bool.false_eq_true, if_false, List.nil_append] at e
       rw [e, List.append_assoc, <- B.wr hk]
       exact A.wr k0
     . rw [if_pos k0] at hk
       exact absurd hk k0
   . simp only [if_true] at h2
     obtain ⟨s, m2, h5, h6⟩ := bind_inv h2
     obtain ⟨rfl, hs⟩ := tx_inv hom h5
     obtain ⟨v, q, h3, h4⟩ := bind_inv h6
     obtain ⟨e, rfl⟩ := Prod.mk.inj (Except.ok.inj h4)
     obtain ⟨rfl, rfl⟩ := Prod.mk.inj e
     have B := ih m2 v q hom.right h3
     have nl := A.nl
     simp only [if_true] at nl
     refine ⟨by rw [snoc_list, List.length_append, A.len]; rfl, by simp [nl], fun x hx => ?_, wf_snoc B.wf A.wf, by rw [dp_snoc]; have := A.dp; have := B.dp; omega, fun hk => ?_⟩
     . rcases List.mem_append.1 hx with hx | hx
       . exact A.nz x hx
       . have : x = s := by simpa using hx
         rw [this]; exact hs
     rw [chk0_snoc] at hk
     by_cases k0 : chk0 f0 = 0
     . rw [if_neg (by simpa using k0)] at hk
       have e := enc_snoc v s f0 true ns0 (fun _ => by rw [nl, A.len])
       simp only [if_true] at e
       rw [e, List.append_assoc, List.append_assoc, <- B.wr hk]
       exact A.wr k0
     . rw [if_pos k0] at hk
       exact absurd hk k0
theorem wf_lf (k n s : Int) (t : ByteArray) (hk : 0 <= k /\ k < 256) (hn : -9223372036854775808 <= n /\ n < 9223372036854775808) (hs : 0 <= s /\ s < 256) (ht : t.size <= 65536) : WfV (lf k n s t) :=
 ⟨⟨by show (_ : Int) <= k; omega, by show k < _; omega, hn.1, hn.2, by show (_ : Int) <= s; omega, by show s < _; omega, by show t.size <= _; omega, by simp [lf], by simp [lf]⟩, by simp [lf, Fo.list], trivial⟩
theorem hok_nst (k : Int) (hk : 0 <= k /\ k < 256) (f : Fo) (ns : List ByteArray) (h1 : ns.length <= 140737488355328) (h2 : ∀ x ∈ ns, x.size <= 140737488355328) : Hok (nst k (f, ns)).1 :=
 ⟨by show (_ : Int) <= k; omega, by show k < _; omega, by show (_ : Int) <= 0; decide, by show (0 : Int) < _; decide, by show (_ : Int) <= 0; decide, by show (0 : Int) < _; decide, by show em.size <= _; decide, h1, h2⟩
theorem own_of0 {p : Vt} (h : chk0V p = 0) : own p.1 p.2.list.length = 0 /\ chk0 p.2 = 0 := by
 by_cases ho : own p.1 p.2.list.length = 0
 . rw [chk0V, if_neg (by simpa using ho)] at h
   exact ⟨ho, h⟩
 . rw [chk0V, if_pos ho] at h
   exact absurd h ho
theorem zag_nat {u : Nat} (hu : u < 18446744073709551616) : -9223372036854775808 <= zagS u /\ zagS u < 9223372036854775808 /\ (zigS (zagS u)).toNat = u := by
 have := zag_bd u (by omega) (by omega)
 refine ⟨this.1, by omega, ?_⟩
 rw [zig_zag u (by omega)]
 rfl
theorem wr_bd {u : Nat} (hu : u < 18446744073709551616) : -9223372036854775808 <= wr64 u /\ wr64 u < 9223372036854775808 := by
 unfold wr64
 split <;> omega
theorem find_V : ∀ (d : Nat) (l : List Nat) (p : Vt) (r : List Nat), Oct l -> rdV d l = .ok (p, r) -> Fnd d l p r
 | 0, l, p, r, ho, h => by cases h
 | d + 1, l, p, r, ho, h => by
   obtain ⟨k, m, h1, h'⟩ := bind_inv h
   obtain rfl := by_inv h1
   clear h h1
   have h := h'
   clear h'
   have hk := ho k (by simp)
   have hom : Oct m := fun x hx => ho x (by simp [hx])
   have dl : ∀ (k n s : Int) (t : ByteArray), dpV (lf k n s t) <= d + 1 := fun k n s t => by simp [dpV, lf, dpF]
   split at h
   . next hk1 =>
     subst hk1
     obtain ⟨rfl, rfl⟩ := Prod.mk.inj (Except.ok.inj h)
     exact ⟨wf_lf 1 0 0 em (by omega) (by omega) (by omega) (by decide), dl _ _ _ _, fun _ => by simp [encV, headB, bodyB, enc, lf]⟩
   split at h
   . next _ hk1 =>
     subst hk1
     obtain ⟨x, q, h2, h'⟩ := bind_inv h
     clear h
     have h := h'
     clear h'
     obtain rfl := by_inv h2
     split at h
     . cases h
     . obtain ⟨rfl, rfl⟩ := Prod.mk.inj (Except.ok.inj h)
       exact ⟨wf_lf 2 x 0 em (by omega) (by omega) (by omega) (by decide), dl _ _ _ _, fun _ => by simp [encV, headB, bodyB, enc, lf]⟩
   split at h
   . next _ _ hk1 =>
     subst hk1
     obtain ⟨u, q, h2, h'⟩ := bind_inv h
     clear h
     have h := h'
     clear h'
     obtain ⟨rfl, hu⟩ := uv_inv hom h2
     obtain ⟨rfl, rfl⟩ := Prod.mk.inj (Except.ok.inj h)
     have z := zag_nat hu
     exact ⟨wf_lf 3 _ 0 em (by omega) ⟨z.1, z.2.1⟩ (by omega) (by decide), dl _ _ _ _, fun _ => by simp [encV, headB, bodyB, enc, lf, z.2.2]⟩
   split at h
   . next _ _ _ hk1 =>
     subst hk1
     obtain ⟨u, q, h2, h'⟩ := bind_inv h
     clear h
     have h := h'
     clear h'
     obtain ⟨rfl, hu⟩ := uv_inv hom h2
     obtain ⟨x, q2, h3, h'⟩ := bind_inv h
     clear h
     have h := h'
     clear h'
     obtain rfl := by_inv h3
     obtain ⟨rfl, rfl⟩ := Prod.mk.inj (Except.ok.inj h)
     have hx := hom x (by simp)
     have z := zag_nat hu
     exact ⟨wf_lf 4 _ x em (by omega) ⟨z.1, z.2.1⟩ (by omega) (by decide), dl _ _ _ _, fun _ => by simp [encV, headB, bodyB, enc, lf, z.2.2]⟩
   split at h
   . next _ _ _ _ hk1 =>
     subst hk1
     obtain ⟨u, q, h2, h'⟩ := bind_inv h
     clear h
     have h := h'
     clear h'
     obtain ⟨rfl, hu⟩ := uv_inv hom h2
     obtain ⟨rfl, rfl⟩ := Prod.mk.inj (Except.ok.inj h)
     refine ⟨wf_lf 5 _ 0 em (by omega) (wr_bd hu) (by omega) (by decide), dl _ _ _ _, fun hc => ?_⟩
     have hf := (own_fine (own_of0 hc).1).form
     have w0 : 0 <= wr64 u := by
      unfold formed at hf
      rw [if_neg (by simp [lf]), if_neg (by simp [lf]), if_neg (by simp [lf]), if_neg (by simp [lf]), if_pos (by simp [lf])] at hf
      rw [Bool.and_eq_true, Bool.and_eq_true] at hf
      exact of_decide_eq_true hf.1.2
     have w : wr64 u = (u : Int) := by
      unfold wr64 at w0 ⊢
      by_cases hu6 : u < 9223372036854775808
      . rw [if_pos hu6]
      . rw [if_neg hu6] at w0
        omega
     simp [encV, headB, bodyB, enc, lf, w]
   split at h
   . next _ _ _ _ _ hk1 =>
     subst hk1
     obtain ⟨t, q, h2, h'⟩ := bind_inv h
     clear h
     have h := h'
     clear h'
     obtain ⟨rfl, ht⟩ := tx_inv hom h2
     obtain ⟨rfl, rfl⟩ := Prod.mk.inj (Except.ok.inj h)
     exact ⟨wf_lf 6 0 0 t (by omega) (by omega) (by omega) ht, dl _ _ _ _, fun _ => by simp [encV, headB, bodyB, enc, lf]⟩
   split at h
   . next _ _ _ _ _ _ hk1 =>
     subst hk1
     obtain ⟨t, q, h2, h'⟩ := bind_inv h
     clear h
     have h := h'
     clear h'
     obtain ⟨rfl, ht⟩ := tx_inv hom h2
     obtain ⟨rfl, rfl⟩ := Prod.mk.inj (Except.ok.inj h)
     exact ⟨wf_lf 7 0 0 t (by omega) (by omega) (by omega) ht, dl _ _ _ _, fun _ => by simp [encV, headB, bodyB, enc, lf]⟩
   split at h
   . next _ _ _ _ _ _ _ hk1 =>
     subst hk1
     obtain ⟨n, q, h2, h'⟩ := bind_inv h
     clear h
     have h := h'
     clear h'
     obtain ⟨rfl, hn⟩ := len_inv hom h2
     obtain ⟨⟨f, ns⟩, q2, h3, h'⟩ := bind_inv h
     clear h
     have h := h'
     clear h'
     obtain ⟨rfl, rfl⟩ := Prod.mk.inj (Except.ok.inj h)
     have A := find_N (d := d) (good_V d) (fun l p r => find_V d l p r) false n q f ns q2 hom.right h3
     have hl := A.len
     have hns : ns = [] := List.eq_nil_of_length_eq_zero (by simpa using A.nl)
     subst hns
     refine ⟨⟨hok_nst 8 (by decide) f [] (by simp) (by simp), by show f.list.length <= _; omega, A.wf⟩, by show 1 + dpF f <= _; have := A.dp; omega, fun hc => ?_⟩
     have := A.wr (own_of0 hc).2
     conv => lhs; rw [this]
     simp [encV, headB, bodyB, nst, hl]
   split at h
   . next _ _ _ _ _ _ _ _ hk1 =>
     subst hk1
     obtain ⟨n, q, h2, h'⟩ := bind_inv h
     clear h
     have h := h'
     clear h'
     obtain ⟨rfl, hn⟩ := len_inv hom h2
     obtain ⟨⟨f, ns⟩, q2, h3, h'⟩ := bind_inv h
     clear h
     have h := h'
     clear h'
     obtain ⟨rfl, rfl⟩ := Prod.mk.inj (Except.ok.inj h)
     have A := find_N (d := d) (good_V d) (fun l p r => find_V d l p r) true n q f ns q2 hom.right h3
     have hl := A.len
     have hnl := A.nl
     simp only [if_true] at hnl
     refine ⟨⟨hok_nst 9 (by decide) f ns (by omega) (fun x hx => Nat.le_trans (A.nz x hx) (by decide)), by show f.list.length <= _; omega, A.wf⟩, by show 1 + dpF f <= _; have := A.dp; omega, fun hc => ?_⟩
     have := A.wr (own_of0 hc).2
     conv => lhs; rw [this]
     simp [encV, headB, bodyB, nst, hl]
   . cases h
theorem enc_back (p : Vt) (hw : WfV p) (hc : chkV p 1 = 0) (m : List Nat) : rdV 16 (encV p ++ m) = .ok (p, m) := by
 have h1 := deepV_of p 1 hc
 rw [chkV_flat p 1 h1] at hc
 exact reads_V 16 p hw (by omega) hc m
theorem uv_oct' (u : Nat) : Oct (uv u) := uv_oct u
theorem tx_oct (s : ByteArray) : Oct (txB s) := (uv_oct' _).app (bts_oct s)
theorem one_oct {x : Nat} (h : x < 256) : Oct [x] := fun y hy => by
 have : y = x := by simpa using hy
 omega
theorem head_oct {h : Hd} {kl : Nat} (hf : own h kl = 0) : Oct (headB h kl) := by
 have hfm := (own_fine hf).form
 have hk : 1 <= h.k /\ h.k <= 9 := by
  unfold formed at hfm
  repeat' split at hfm
  all_goals first | omega | cases hfm
 intro x hx
 rcases List.mem_cons.1 hx with rfl | hx
 . omega
 unfold bodyB at hx
 unfold formed at hfm
 split at hx
 . next h2 =>
   simp only [h2, Int.reduceEq, if_false, if_true, Bool.and_eq_true, Bool.or_eq_true, beq_iff_eq] at hfm
   exact one_oct (by omega) x hx
 split at hx
 . exact uv_oct _ x hx
 split at hx
 . next h4 =>
   simp only [h4, Int.reduceEq, if_false, if_true, Bool.and_eq_true, decide_eq_true_eq] at hfm
   exact (uv_oct' _).app (one_oct (by omega)) x hx
 split at hx
 . exact uv_oct _ x hx
 split at hx
 . exact tx_oct _ x hx
 split at hx
 . exact tx_oct _ x hx
 split at hx
 . exact uv_oct _ x hx
 split at hx
 . exact uv_oct _ x hx
 . cases hx
theorem enc_oct : ∀ (f : Fo) (b : Bool) (ns : List ByteArray), chk0 f = 0 -> Oct (enc f b ns)
 | .nil, _, _, _ => fun x hx => by cases hx
 | .cons h k r, b, ns, hc => by
   have c1 := chk0_mem (p := (h, k)) hc (by simp [Fo.list])
   have c2 : chk0 r = 0 := by
    have e : chk0 (.cons h k r) = if chk0V (h, k) ≠ 0 then chk0V (h, k) else chk0 r := rfl
    rw [e, if_neg (by simpa using c1)] at hc
    exact hc
   obtain ⟨a, b'⟩ := own_of0 c1
   refine Oct.app (Oct.app ?_ ((head_oct a).app (enc_oct k _ _ b'))) (enc_oct r b _ c2)
   cases b
   . intro x hx; cases hx
   . exact tx_oct _
theorem encV_oct (p : Vt) (hc : chk0V p = 0) : Oct (encV p) := (head_oct (own_of0 hc).1).app (enc_oct _ _ _ (own_of0 hc).2)
def Cells (w : World) (b off : Nat) (l : List Nat) : Prop := ∀ i, i < l.length -> w.cell? ⟨b, off + i, none⟩ = some (.int .u8 ((l.getD i 0 : Nat) : Int))
theorem oct_get {l : List Nat} (h : Oct l) (i : Nat) : l.getD i 0 < 256 := by
 rw [List.getD_eq_getElem?_getD]
 cases e : l[i]? with
 | none => decide
 | some x => exact h x (List.mem_of_getElem? e)
def Byt (w : World) (a : Option Addr) (l : List Nat) : Prop := l = [] ∨ ∃ b off, a = some ⟨b, off, none⟩ /\ Cells w b off l
theorem take_snoc (l : List Nat) (k : Nat) (hlt : k < l.length) : l.take (k + 1) = l.take k ++ [l.getD k 0] := by
 rw [List.take_succ_eq_append_getElem hlt, List.getD_eq_getElem?_getD, List.getElem?_eq_getElem hlt]; rfl
open Go.RowKit Go.ChangeShapes Go.WideShapes Math
theorem same_any (a1 a2 : Option Addr) (c1 c2 : Nat) (l : List Nat) (hn : l.length <= 1000000) (w : World) (h1 : Byt w a1 l) (h2 : Byt w a2 l) (hb : Oct l) :
 Calls Tryz.prog 9 #[.slice a1 l.length c1, .slice a2 l.length c2] w fun e w' => e = .returned (.bool true) /\ ∃ q, w' = w.drewN q := by
 go_enter Tryz.func9, Tryz.ntmps9
 go_wp2
 go_loopw [5] (fun i wr => ∃ k q : Nat, k <= l.length /\ i = .int .i64 k /\ wr = w.drewN q) (fun i _ => l.length - (intOf i).toNat)
 case atStart => exact ⟨0, 0, by omega, rfl, rfl⟩
 case round =>
  obtain ⟨k, q, hk, rfl, rfl⟩ := hrel
  by_cases hlt : k < l.length
  . rcases h1 with rfl | ⟨b1, o1, rfl, h1⟩
    . simp at hlt
    rcases h2 with rfl | ⟨b2, o2, rfl, h2⟩
    . simp at hlt
    have hc1 := h1 k hlt
    have hc2 := h2 k hlt
    have hx := oct_get hb k
    generalize l.getD k 0 = x at hx hc1 hc2
    clear h1 h2 hb
    go_wp2
    go_quiet (fail)
    go_wp2
    go_roundw
    case rel => exact ⟨k + 1, _, by omega, by go_num, rfl⟩
    case measure => simp [intOf]; omega
  . go_wp2
    go_ret
    exact ⟨rfl, q, rfl⟩
theorem Tryz.info5 : (Tryz.prog.info? 5).map (fun i => (i.zero, i.size, i.bytes)) = some (some (.int .u8 0), 1, 1) := by kernel_rfl
def vals (l : List Nat) : List Value := l.map fun n : Nat => Value.int .u8 (n : Int)
theorem vals_length (l : List Nat) : (vals l).length = l.length := by simp [vals]
theorem vals_get (l : List Nat) (i : Nat) (h : i < l.length) : (vals l)[i]? = some (.int .u8 ((l.getD i 0 : Nat) : Int)) := by
 simp [vals, List.getD_eq_getElem?_getD, List.getElem?_eq_getElem h]
theorem vals_one (l : List Nat) : ∀ u ∈ vals l, u.oneCell' = true := by
 intro u hu
 obtain ⟨_, _, rfl⟩ := List.mem_map.1 hu
 rfl
def Own (w : World) (base : Nat) (v : Value) (l : List Nat) : Prop := w.ownsRow base 5 1 v l.length (vals l)
theorem app_bytes {ops : Array Oper} {rest : List Oper} {o : Oper} {a : Act} {Q : Exit -> Act -> World -> Prop} {w : World} (hgd : o.guard = none) (s x : Operand)
 (ho : o.op = .call { callee := .builtin .append, args := #[s, x], argTypes := #[29, 29] })
 (base : Nat) (v : Value) (l : List Nat) (hs : a.eval s = v) (hown : Own w base v l)
 (ax : Option Addr) (m c : Nat) (l2 : List Nat) (hm : m = l2.length) (hx : a.eval x = .slice ax m c) (hsrc : Byt w ax l2) (hnil : ax = none -> c = 0)
 (hb : l.length + l2.length <= 1000000) (hbase : base <= w.heap.size)
 (h : ∀ v' w', Own w' base v' (l ++ l2) -> w.grownBy w' v.ownBlock -> wpList Tryz.prog ops Q rest (a.put o.dst v') w') : wpList Tryz.prog ops Q (o :: rest) a w := by
 subst hm
 obtain ⟨i, hi, hz0, hz1, hz2⟩ := info_parts Tryz.info5
 cases ax with
 | none =>
   obtain rfl := hnil rfl
   have hl : l2 = [] := by
    rcases hsrc with h | ⟨_, _, h, _⟩
    . exact h
    . cases h
   subst hl
   refine wpList_append_own_none hgd s x 29 ho base 5 i 1 Tryz.underlying29 hi v _ _ hs hown hx (h v w ?_ (World.grownBy.refl _ _))
   simpa using hown
 | some ad =>
   refine wpList_append_own _ hgd s x 29 ho base 5 i (.int .u8 0) 1 1 Tryz.underlying29 hi hz0 hz1 hz2 rfl (by decide) v _ _ hs hown ad l2.length c (vals l2) hx (by simp [vals_length]) ?_ (vals_one l2) (by unfold maxLen; omega) (by omega) hbase ?_
   . intro j u hj
     have hjl : j < l2.length := by
      have := (List.getElem?_eq_some_iff.1 hj).1
      simpa [vals_length] using this
     rcases hsrc with rfl | ⟨b, off, he, hc⟩
     . simp at hjl
     . obtain rfl := Option.some.inj he
       rw [vals_get l2 j hjl] at hj
       rw [Addr.add_lit, hc j hjl]
       exact hj
   . intro v' w' h1 h2 _
     refine h v' w' ?_ h2
     unfold Own
     rw [List.length_append, show vals (l ++ l2) = vals l ++ vals l2 by simp [vals]]
     exact h1
theorem Own.form {w : World} {base : Nat} {v : Value} {l : List Nat} (h : Own w base v l) (hl : 0 < l.length) :
 ∃ g cap, v = .slice (some ⟨g, 0, none⟩) l.length cap /\ base <= g /\ g < w.heap.size /\ l.length <= cap /\ cap <= maxLen /\ Cells w g 0 l := by
 have h' := h
 rcases h with ⟨_, ⟨rfl, h0⟩ | ⟨g, cap, cur, rfl, hg, hh, hle, hm, _⟩⟩
 . omega
 . refine ⟨g, cap, rfl, hg, (Array.getElem?_eq_some_iff.1 hh).1, hle, hm, fun i hi => ?_⟩
   rw [Nat.zero_add, World.ownsRow.cellAt h' i (by omega), vals_get l i hi]
theorem own_empty (w : World) (base : Nat) (hb : base <= w.heap.size) : Own (w.alloc (.cells #[] 5)) base (.slice (some ⟨w.heap.size, 0, none⟩) 0 0) [] :=
 World.ownsRow_lit w #[] 0 hb (by decide) rfl
theorem Cells.below {w w' : World} {b off : Nat} {l : List Nat} (h : Cells w b off l) (hb : Below w.heap.size w w') : Cells w' b off l :=
 fun i hi => (hb.cell (p := ⟨b, off + i, none⟩) (cell_lt (h i hi))).trans (h i hi)
theorem Cells.left {w : World} {b off : Nat} {l m : List Nat} (h : Cells w b off (l ++ m)) : Cells w b off l := fun i hi => by
 rw [h i (by simp; omega), List.getD_eq_getElem?_getD, List.getD_eq_getElem?_getD, List.getElem?_append_left hi]
theorem Byt.below {w w' : World} {a : Option Addr} {l : List Nat} (h : Byt w a l) (hb : Below w.heap.size w w') : Byt w' a l := by
 rcases h with h | ⟨b, off, rfl, hc⟩
 . exact .inl h
 . exact .inr ⟨b, off, rfl, hc.below hb⟩
theorem byt_lit (w : World) (l : List Nat) : Byt (w.alloc (.cells (vals l).toArray 5)) (some ⟨w.heap.size, 0, none⟩) l := by
 refine .inr ⟨_, _, rfl, fun i hi => ?_⟩
 rw [Nat.zero_add, World.cell?_alloc_new, List.getElem?_toArray, vals_get l i hi]
theorem Own.alloc {w : World} {base : Nat} {v : Value} {l : List Nat} (h : Own w base v l) (o : Obj) : Own (w.alloc o) base v l := World.ownsRow.alloc h o
theorem below_app {B : Nat} {w0 w w' : World} {v : Value} {l : List Nat} (hb : Below B w0 w) (hB : B <= w.heap.size) (h : Own w B v l) (hg : w.grownBy w' v.ownBlock) : Below B w0 w' :=
 hb.grown hg hB fun k hk => (World.ownsRow.lt h k hk).1
theorem Cells.at {w : World} {b off : Nat} {l m : List Nat} {x : Nat} (h : Cells w b off (l ++ x :: m)) : w.cell? ⟨b, off + l.length, none⟩ = some (.int .u8 (x : Int)) := by
 have := h l.length (by simp)
 simpa [List.getD_eq_getElem?_getD] using this
def IsRow (k : IntKind) (w : World) (a : Option Addr) (len cap : Nat) (zs : List Int) : Prop :=
 (a = none /\ len = 0 /\ cap = 0 /\ zs = []) ∨
 ∃ x, a = some x /\ len <= cap /\ cap <= maxLen /\ zs.length = cap /\ (∀ i, i < zs.length -> w.cell? (x.add i) = some (.int k (zs.getD i 0))) /\ ∀ n ∈ zs, (Lit.int k n).wf = true
theorem row_byt {w : World} {a : Option Addr} {len cap : Nat} {zs : List Int} (h : IsRow .u8 w a len cap zs) :
 ∃ l : List Nat, l.length = len /\ Byt w a l /\ Oct l /\ (a = none -> cap = 0) /\ len <= maxLen := by
 rcases h with ⟨rfl, rfl, rfl, rfl⟩ | ⟨x, rfl, hlc, hm, hz, hc, hwf⟩
 . exact ⟨[], rfl, .inl rfl, (fun x hx => by cases hx), fun _ => rfl, by unfold maxLen; omega⟩
 . refine ⟨(zs.take len).map Int.toNat, by simp; omega, ?_, ?_, (fun h => by cases h), by omega⟩
   . by_cases h0 : len = 0
     . left; subst h0; rfl
     . right
       obtain ⟨b, off, spot⟩ := x
       have hs : spot = none := by simpa [Addr.add] using World.cell?_spot (hc 0 (by omega))
       subst hs
       refine ⟨b, off, rfl, fun i hi => ?_⟩
       have hi' : i < len := by simp at hi; omega
       have h1 := hc i (by omega)
       have h2 := bounds_u8 (hwf (zs[i]'(by omega)) (List.getElem_mem _))
       rw [Addr.add_lit] at h1
       rw [h1]
       have e1 : zs.getD i 0 = zs[i]'(by omega) := by simp [List.getD_eq_getElem?_getD, List.getElem?_eq_getElem (show i < zs.length by omega)]
       have e2 : ((zs.take len).map Int.toNat).getD i 0 = (zs[i]'(by omega)).toNat := by
        simp [List.getD_eq_getElem?_getD, hi', List.getElem?_eq_getElem (show i < zs.length by omega)]
       rw [e1, e2, Int.toNat_of_nonneg h2.1]
   . intro x hx
     obtain ⟨z, hz, rfl⟩ := List.mem_map.1 hx
     have := bounds_u8 (hwf z (List.mem_of_mem_take hz))
     omega
theorem uv_any (v : Nat) (hv : v < 18446744073709551616) (w : World) :
 Calls Tryz.prog 54 #[.int .u64 v] w fun e w' => ∃ r, e = .returned r /\ Own w' w.heap.size r (uv v) /\ Below w.heap.size w w' := by
 have h10 := uv_ten v hv
 go_enter Tryz.func54, Tryz.ntmps54
 go_wp2
 go_loopw [0, 3] (fun x o wr => ∃ (u : Nat) (pre : List Nat), x = .int .u64 u /\ u < 18446744073709551616 /\ Hid (uv v = pre ++ uv u) /\ Own wr w.heap.size o pre /\ Below w.heap.size w wr) (fun x _ _ => (intOf x).toNat)
 case atStart => exact ⟨v, [], rfl, hv, rfl, World.ownsRow_nil _ _ _ _, Below.refl _ _⟩
 case round =>
  obtain ⟨u, pre, rfl, hu, HE, hown, hbel⟩ := hrel
  have hs := hbel.size
  have hlen : pre.length + 1 <= 10 := by
   have := congrArg List.length HE.out
   have h1 := uv_pos u
   simp at this; omega
  by_cases h127 : u < 128
  . have HF : Hid (uv v = pre ++ [u]) := by show _ = _; rw [HE.out, uv_lo u (by omega)]
    go_wp2_with (at_builtin; go_must (refine app_bytes rfl (.tmp 14) (.tmp 17) rfl w.heap.size _ pre rfl (hown.alloc _) _ _ _ [u] rfl rfl (byt_lit wr [u]) (by simp) (by simp; omega) (by simp; omega) ?_))
    intro v1 w1 o1 g1
    have b1 := below_app (hbel.alloc hs _) (by simp; omega) (hown.alloc _) g1
    clear g1 hown
    go_wp2
    go_ret
    exact ⟨v1, rfl, by rw [HF.out]; exact o1, b1⟩
  . obtain ⟨y, hy, HY⟩ : ∃ y : Nat, bits .or .u8 ((u : Int) % 256) 128 = (y : Int) /\ Hid (y = u % 128 + 128) := ⟨_, or_u8 u, rfl⟩
    have HF : Hid (uv v = (pre ++ [y]) ++ uv (u / 128)) := by show _ = _; rw [HE.out, uv_hi u (by omega), HY.out, List.append_assoc]; rfl
    go_wp2_with (at_builtin; go_must (refine app_bytes rfl (.tmp 6) (.tmp 10) rfl w.heap.size _ pre rfl (hown.alloc _) _ _ _ [y] rfl rfl (byt_lit wr [y]) (by simp) (by simp; omega) (by simp; omega) ?_))
    intro v1 w1 o1 g1
    have b1 := below_app (hbel.alloc hs _) (by simp; omega) (hown.alloc _) g1
    clear g1 hown hy
    go_wp2
    go_roundw
    case rel => exact ⟨u / 128, pre ++ [y], by go_num, by omega, HF, o1, b1⟩
    case measure => simp [intOf]; omega
theorem uvr_any (v : Nat) (hv : v < 18446744073709551616) (w : World) :
 Calls Tryz.prog 38 #[.int .u64 v] w fun e w' => ∃ r, e = .returned r /\ Own w' w.heap.size r (uv v) /\ Below w.heap.size w w' := by
 have h10 := uv_ten v hv
 go_enter Tryz.func38, Tryz.ntmps38
 go_wp2
 go_loopw [0, 3] (fun x o wr => ∃ (u : Nat) (pre : List Nat), x = .int .u64 u /\ u < 18446744073709551616 /\ Hid (uv v = pre ++ uv u) /\ Own wr w.heap.size o pre /\ Below w.heap.size w wr) (fun x _ _ => (intOf x).toNat)
 case atStart => exact ⟨v, [], rfl, hv, rfl, World.ownsRow_nil _ _ _ _, Below.refl _ _⟩
 case round =>
  obtain ⟨u, pre, rfl, hu, HE, hown, hbel⟩ := hrel
  have hs := hbel.size
  have hlen : pre.length + 1 <= 10 := by
   have := congrArg List.length HE.out
   have h1 := uv_pos u
   simp at this; omega
  by_cases h127 : u < 128
  . have HF : Hid (uv v = pre ++ [u]) := by show _ = _; rw [HE.out, uv_lo u (by omega)]
    go_wp2_with (at_builtin; go_must (refine app_bytes rfl (.tmp 15) (.tmp 18) rfl w.heap.size _ pre rfl (hown.alloc _) _ _ _ [u] rfl rfl (byt_lit wr [u]) (by simp) (by simp; omega) (by simp; omega) ?_))
    intro v1 w1 o1 g1
    have b1 := below_app (hbel.alloc hs _) (by simp; omega) (hown.alloc _) g1
    clear g1 hown
    go_wp2
    go_ret
    exact ⟨v1, rfl, by rw [HF.out]; exact o1, b1⟩
  . obtain ⟨t, ht, ht128, HT⟩ : ∃ t : Nat, bits .and .u64 (u : Int) 127 = (t : Int) /\ t < 128 /\ Hid (t = u % 128) := ⟨_, and_127 u hu, by omega, rfl⟩
    obtain ⟨y, hy, HY⟩ : ∃ y : Nat, bits .or .u8 (t : Int) 128 = (y : Int) /\ Hid (y = u % 128 + 128) := ⟨_, or_t t ht128, by show _ = _; rw [HT.out]⟩
    have HF : Hid (uv v = (pre ++ [y]) ++ uv (u / 128)) := by show _ = _; rw [HE.out, uv_hi u (by omega), HY.out, List.append_assoc]; rfl
    go_wp2_with (at_builtin; go_must (refine app_bytes rfl (.tmp 6) (.tmp 11) rfl w.heap.size _ pre rfl (hown.alloc _) _ _ _ [y] rfl rfl (byt_lit wr [y]) (by simp) (by simp; omega) (by simp; omega) ?_))
    intro v1 w1 o1 g1
    have b1 := below_app (hbel.alloc hs _) (by simp; omega) (hown.alloc _) g1
    clear g1 hown hy
    go_wp2
    go_roundw
    case rel => exact ⟨u / 128, pre ++ [y], by go_num, by omega, HF, o1, b1⟩
    case measure => simp [intOf]; omega
end Go.Proofs.YtmbglggodifboaaGreat
