/-
  codec's checkShell. · codec's reader: nest: what is read, and what lies in memory meanwhile.
-/
import Derived.Test.YtmbglggodifboaaGreatDoorSG27x
namespace Go.Proofs.YtmbglggodifboaaGreatDoor
open Go.RowKit Math
set_option linter.unusedVariables false
set_option linter.unusedSimpArgs false
/-- So many that are Null. -/
def nuls : Nat → Fo
  | 0 => .nil
  | n + 1 => .cons (lf 1 0 0 em).1 .nil (nuls n)
theorem nuls_len : ∀ n, (nuls n).list.length = n
  | 0 => rfl
  | n + 1 => by simp [nuls, Fo.list, nuls_len n]
theorem nuls_wf : ∀ n, Wf (nuls n)
  | 0 => trivial
  | n + 1 => ⟨wf_lf 1 0 0 em (by omega) (by omega) (by omega) (by decide), nuls_wf n⟩
theorem nuls_at {w : World} {g : Nat} : ∀ (n o : Nat), (∀ j v, (reps n)[j]? = some v → w.cell? ⟨g, o + j, none⟩ = some v) → At w (nuls n) g o
  | 0, o, h => trivial
  | n + 1, o, h => by
    refine ⟨⟨none, 0, none, 0, ⟨h 0 _ rfl, h 1 _ rfl, h 2 _ rfl, h 3 _ rfl, h 4 _ rfl, h 5 _ rfl⟩, .inl rfl, ⟨Nat.le_refl _, fun _ => rfl, by decide⟩, .inl rfl, ⟨Nat.le_refl _, fun _ => rfl, by decide⟩⟩, nuls_at n (o + 6) fun j v hj => ?_⟩
    have := h (6 + j) v (by
      rw [reps, List.getElem?_append_right (by simp [nul6])]
      simpa [nul6] using hj)
    rw [show o + 6 + j = o + (6 + j) by omega]
    exact this
set_option maxRecDepth 8000 in
set_option maxHeartbeats 1000000 in
theorem shell_any (h : Hd) (hh : Hok h) (na : Option Addr) (nc : Nat) (ka : Option Addr) (kl kc n : Nat) (hn : n ≤ 65536) (W : World) (hN : Nms W na h.ns) (hC : Cap na h.ns.length nc) :
    Calls Tryz.prog 138 #[.agg #[.int .i64 h.k, .int .i64 h.n, .int .i64 h.s, .string h.t, .slice na h.ns.length nc, .slice ka kl kc], .int .i64 (n : Int)] W fun e w' => e = .returned (.int .i64 (chkV (h, nuls n) 1)) ∧ Hid (Below W.heap.size W w') := by
  obtain ⟨E, HE⟩ : ∃ E, Hid (chkV (h, nuls n) 1 = E) := ⟨_, rfl⟩
  rw [HE.out]
  obtain ⟨W2, HW2⟩ : ∃ W2, Hid ((W.alloc (.cells #[.int .i64 h.k, .int .i64 h.n, .int .i64 h.s, .string h.t, .slice na h.ns.length nc, .slice ka kl kc] 41)).alloc (.cells #[.int .i64 1, .int .i64 0, .int .i64 0, .string ⟨#[]⟩, .slice none 0 0, .slice none 0 0] 41) = W2) := ⟨_, rfl⟩
  have HBW : Hid (Below W.heap.size W W2) := by rw [← HW2.out]; exact ((Below.refl _ _).alloc (Nat.le_refl _) _).alloc (by simp) _
  have HX : Hid (Blk W2 W.heap.size 41 (six h na nc ka kl kc)) := by rw [← HW2.out]; exact (blk_new W 41 (six h na nc ka kl kc)).alloc _
  have HY : Hid (Blk W2 (W.heap.size + 1) 41 nul6) := by
    rw [← HW2.out]
    have hk := blk_new (W.alloc (.cells #[.int .i64 h.k, .int .i64 h.n, .int .i64 h.s, .string h.t, .slice na h.ns.length nc, .slice ka kl kc] 41)) 41 nul6
    rw [show (W.alloc (.cells #[.int .i64 h.k, .int .i64 h.n, .int .i64 h.s, .string h.t, .slice na h.ns.length nc, .slice ka kl kc] 41)).heap.size = W.heap.size + 1 by simp] at hk
    exact hk
  have HNm : Hid (Nms W na h.ns) := hN
  have HCp : Hid (Cap na h.ns.length nc) := hC
  have HHk : Hid (Hok h) := hh
  have KR := repeat_any n hn (W.heap.size + 1) W2 HY.out
  clear hN hC hh HY
  go_enter Tryz.func138, Tryz.ntmps138
  go_wp2_with fail
  generalize hWW : World.alloc (World.alloc W _) _ = W9
  obtain rfl : W2 = W9 := by rw [← hWW, ← HW2.out]
  clear hWW HW2
  refine KR.mono ?_
  clear KR
  rintro e w3 ⟨g, rfl, H3⟩
  have HX3 : Hid (Blk w3 W.heap.size 41 (six h na nc ka kl kc)) := HX.out.below H3.out.2.2 HX.out.lt
  have HB3 : Hid (Below W.heap.size W w3) := HBW.out.trans (H3.out.2.2.mono HBW.out.size)
  have HR3 : Hid (Blk w3 g 41 (reps n) ∧ W2.heap.size ≤ g) := ⟨H3.out.1, H3.out.2.1⟩
  have hz : W.heap.size < W2.heap.size := HX.out.lt
  clear H3 HX HBW
  go_wp2_with (refine st_one rfl 39 (.tmp 9) (.tmp 8) rfl W.heap.size 5 41 _ (.slice (some ⟨g, 0, none⟩) n n) rfl rfl rfl rfl (by simp [six]) HX3.out s23 ?_)
  intro w4 B4 gr4
  have HB4 : Hid (Below W.heap.size W w4) := HB3.out.grown gr4 HB3.out.size (fun x e => by injection e with e; omega)
  have HVl : Hid (Vl w4 (h, nuls n) na nc (some ⟨g, 0, none⟩) n) := by
    refine ⟨HNm.out.below HB4.out, HCp.out, .inr ⟨g, 0, rfl, nuls_at n 0 fun j v hj => ?_⟩, ⟨by rw [nuls_len]; exact Nat.le_refl _, fun h => (by cases h), by omega⟩⟩
    have b4 : Blk w4 g 41 (reps n) := HR3.out.1.kept gr4 (by intro c; injection c with c; have := HR3.out.2; omega)
    rw [Nat.zero_add, b4.cell]
    exact hj
  have HWf : Hid (WfV (h, nuls n)) := ⟨HHk.out, by rw [nuls_len]; omega, nuls_wf n⟩
  have KC := vCheck_any (h, nuls n) HWf.out na nc (some ⟨g, 0, none⟩) n w4 HVl.out
  have hbk : Blk w4 W.heap.size 41 (six h na nc (some ⟨g, 0, none⟩) n n) := B4
  have c0 : w4.cell? ⟨W.heap.size, 0, none⟩ = some (.int .i64 h.k) := hbk.cell 0
  have c1 : w4.cell? ⟨W.heap.size, 1, none⟩ = some (.int .i64 h.n) := hbk.cell 1
  have c2 : w4.cell? ⟨W.heap.size, 2, none⟩ = some (.int .i64 h.s) := hbk.cell 2
  have c3 : w4.cell? ⟨W.heap.size, 3, none⟩ = some (.string h.t) := hbk.cell 3
  have c4 : w4.cell? ⟨W.heap.size, 4, none⟩ = some (.slice na h.ns.length nc) := hbk.cell 4
  have c5 : w4.cell? ⟨W.heap.size, 5, none⟩ = some (.slice (some ⟨g, 0, none⟩) n n) := hbk.cell 5
  simp only [nuls_len] at KC
  rw [HE.out] at KC
  clear hbk B4 gr4 HVl HWf HR3 HX3 HB3
  go_wp2_with fail
  refine KC.mono ?_
  rintro e w5 ⟨rfl, b5⟩
  have HB5 : Hid (Below W.heap.size W w5) := HB4.out.trans (b5.mono HB4.out.size)
  clear b5
  go_wp2
  go_ret
  exact ⟨rfl, HB5.out⟩
theorem nuls_chk : ∀ n, chk0 (nuls n) = 0
  | 0 => rfl
  | n + 1 => by
    have e : chk0 (nuls (n + 1)) = if chk0V (lf 1 0 0 em) ≠ 0 then chk0V (lf 1 0 0 em) else chk0 (nuls n) := rfl
    rw [e, nuls_chk n, show chk0V (lf 1 0 0 em) = 0 by kernel_rfl]
    rfl
theorem nuls_dp : ∀ n, dpF (nuls n) ≤ 1
  | 0 => by simp [nuls, dpF]
  | n + 1 => by have := nuls_dp n; simp only [nuls, dpF]; omega
theorem shell_own (h : Hd) (n : Nat) : chkV (h, nuls n) 1 = own h n := by
  rw [chkV_flat _ 1 (by have := nuls_dp n; simp only [dpV]; omega)]
  unfold chk0V
  rw [nuls_len, nuls_chk]
  by_cases h1 : own h n = 0 <;> simp [h1]
end Go.Proofs.YtmbglggodifboaaGreatDoor
namespace Go.Proofs.YtmbglggodifboaaGreatDoor
open Go.RowKit Math
set_option linter.unusedVariables false
set_option linter.unusedSimpArgs false
/-! ### what is read -/
def stp (g : Rdr Vt) (b : Bool) (q : Fo × List ByteArray) : Rdr (Fo × List ByteArray) := if b then txR.bind fun s => g.bind fun v => .ret (q.1.snoc v, q.2 ++ [s]) else g.bind fun v => .ret (q.1.snoc v, q.2)
theorem rdN_stp (g : Rdr Vt) (b : Bool) (n : Nat) : rdN g b (n + 1) = (rdN g b n).bind (stp g b) := rfl
theorem good_stp {g : Rdr Vt} (hg : Good g) (b : Bool) (q : Fo × List ByteArray) : Good (stp g b q) := by
  unfold stp
  cases b
  · exact good_bind hg fun v => good_ret _
  · exact good_bind good_tx fun s => good_bind hg fun v => good_ret _
theorem bind_ok_inv {α β : Type} {f : Rdr α} {g : α → Rdr β} {l : List Nat} {y : β} {r : List Nat} (h : f.bind g l = .ok (y, r)) : ∃ x m, f l = .ok (x, m) ∧ g x m = .ok (y, r) := by
  unfold Rdr.bind at h
  cases e : f l with
  | error e' => rw [e] at h; cases h
  | ok v =>
    obtain ⟨x, m⟩ := v
    rw [e] at h
    exact ⟨x, m, rfl, h⟩
theorem bind_err {α β : Type} {f : Rdr α} {g : α → Rdr β} {l : List Nat} {e : Nat} (h : f l = .error e) : f.bind g l = .error e := by
  unfold Rdr.bind
  rw [h]
theorem rd_pre {g : Rdr Vt} (hg : Good g) (b : Bool) {l : List Nat} (hl : Oct l) (m : Nat) : ∀ (n : Nat) (q : Fo × List ByteArray) (r : List Nat), m ≤ n → rdN g b n l = .ok (q, r) → ∃ q' r', rdN g b m l = .ok (q', r') ∧ r.length ≤ r'.length
  | 0, q, r, hm, h => by
    obtain rfl : m = 0 := by omega
    exact ⟨q, r, h, Nat.le_refl _⟩
  | n + 1, q, r, hm, h => by
    by_cases e : m = n + 1
    · subst e
      exact ⟨q, r, h, Nat.le_refl _⟩
    · rw [rdN_stp] at h
      obtain ⟨q1, r1, h1, h2⟩ := bind_ok_inv h
      obtain ⟨c, hc, _, _⟩ := good_N hg b n l q1 r1 hl h1
      have ho : Oct r1 := fun x hx => hl x (by rw [hc]; simp [hx])
      obtain ⟨c2, hc2, _, _⟩ := good_stp hg b q1 r1 q r ho h2
      obtain ⟨q', r', a1, a2⟩ := rd_pre hg b hl m n q1 r1 (by omega) h1
      refine ⟨q', r', a1, ?_⟩
      have := congrArg List.length hc2
      rw [List.length_append] at this
      omega
theorem rd_err {g : Rdr Vt} {b : Bool} {l : List Nat} {m : Nat} {e : Nat} (h : rdN g b m l = .error e) : ∀ n, m ≤ n → rdN g b n l = .error e
  | 0, hm => by
    obtain rfl : m = 0 := by omega
    exact h
  | n + 1, hm => by
    by_cases c : m = n + 1
    · subst c
      exact h
    · rw [rdN_stp]
      exact bind_err (rd_err h n (by omega))
/-- It ends early enough. -/
def Sn (d : Nat) (b : Bool) (L : List Nat) (j0 n : Nat) : Prop := L.length ≤ 65536 ∨ ∃ q rest, rdN (fun l => rdV d l) b n (L.drop j0) = .ok (q, rest) ∧ L.length ≤ 65536 + rest.length
theorem sn_of {d k n : Nat} {b : Bool} {L : List Nat} {i j0 : Nat} (h : Sm (neR d k b) L i) (hl : lenR (L.drop i) = .ok (n, L.drop j0)) : Sn d b L j0 n := by
  rcases h with h | ⟨p, rest, h1, h2⟩
  · exact .inl h
  · right
    unfold neR at h1
    obtain ⟨x, m, a1, a2⟩ := bind_ok_inv h1
    rw [hl] at a1
    obtain ⟨rfl, rfl⟩ := Prod.mk.inj (Except.ok.inj a1)
    obtain ⟨q, r, b1, b2⟩ := bind_ok_inv a2
    obtain ⟨_, rfl⟩ := Prod.mk.inj (Except.ok.inj b2)
    exact ⟨q, r, b1, h2⟩
theorem oct_drop {L : List Nat} (h : Oct L) (j : Nat) : Oct (L.drop j) := fun x hx => h x (List.mem_of_mem_drop hx)
theorem kid_sm {d n m : Nat} {b : Bool} {L : List Nat} {j0 j j1 : Nat} {q : Fo × List ByteArray} {s : ByteArray} (ho : Oct L) (h : Sn d b L j0 n) (hm : m < n) (hN : rdN (fun l => rdV d l) b m (L.drop j0) = .ok (q, L.drop j))
    (hT : if b then txR (L.drop j) = .ok (s, L.drop j1) else j1 = j) : Sm (fun l => rdV d l) L j1 := by
  rcases h with h | ⟨q2, rest, h1, h2⟩
  · exact .inl h
  · right
    obtain ⟨q', r', a1, a2⟩ := rd_pre (good_V d) b (oct_drop ho j0) (m + 1) n q2 rest (by omega) h1
    rw [rdN_stp] at a1
    obtain ⟨x, y, b1, b2⟩ := bind_ok_inv a1
    rw [hN] at b1
    obtain ⟨rfl, rfl⟩ := Prod.mk.inj (Except.ok.inj b1)
    unfold stp at b2
    cases b with
    | true =>
      simp only [if_true] at hT b2
      obtain ⟨s', y', c1, c2⟩ := bind_ok_inv b2
      rw [hT] at c1
      obtain ⟨rfl, rfl⟩ := Prod.mk.inj (Except.ok.inj c1)
      obtain ⟨v, y2, d1, d2⟩ := bind_ok_inv c2
      obtain ⟨_, rfl⟩ := Prod.mk.inj (Except.ok.inj d2)
      exact ⟨v, y2, d1, by omega⟩
    | false =>
      simp only [Bool.false_eq_true, if_false] at hT b2
      subst hT
      obtain ⟨v, y2, d1, d2⟩ := bind_ok_inv b2
      obtain ⟨_, rfl⟩ := Prod.mk.inj (Except.ok.inj d2)
      exact ⟨v, y2, d1, by omega⟩
theorem kid_at {d : Nat} {L : List Nat} {j1 j2 : Nat} {v : Vt} (h : Sm (fun l => rdV d l) L j1) (hv : rdV d (L.drop j1) = .ok (v, L.drop j2)) (hj : j2 ≤ L.length) : j2 ≤ 65536 := by
  rcases h with h | ⟨p, rest, h1, h2⟩
  · omega
  · rw [show (fun l => rdV d l) (L.drop j1) = rdV d (L.drop j1) from rfl, hv] at h1
    obtain ⟨rfl, rfl⟩ := Prod.mk.inj (Except.ok.inj h1)
    rw [List.length_drop] at h2
    omega
theorem st_ok {α : Type} {f : Rdr α} {L : List Nat} {i j : Nat} {x : α} (h : St f L i 0 j 0 x) : f (L.drop i) = .ok (x, L.drop j) := by
  rcases h with ⟨a, _⟩ | ⟨_, ⟨a, _, _⟩ | ⟨e, _, a, b⟩⟩
  · exact absurd rfl a
  · exact a
  · omega
theorem st_er {α : Type} {f : Rdr α} {L : List Nat} {i j : Nat} {e : Int} {x : α} (h : St f L i 0 j e x) (he : e ≠ 0) : ∃ n : Nat, f (L.drop i) = .error n ∧ e = (n : Int) ∧ n ≠ 0 := by
  rcases h with ⟨a, _⟩ | ⟨_, ⟨_, a, _⟩ | ⟨n, a, b, c⟩⟩
  · exact absurd rfl a
  · exact absurd a he
  · exact ⟨n, a, b, c⟩
/-- What fails on the way fails. -/
theorem ne_fail {d k n m : Nat} {b : Bool} {L : List Nat} {i : Nat} {err : Int} {j0 j : Nat} {e : Int} {q : Fo × List ByteArray} {p : Vt} (hl : St lenR L i err j0 0 n) (hN : St (rdN (fun l => rdV d l) b m) L j0 0 j e q) (hm : m ≤ n) (he : e ≠ 0) : St (neR d k b) L i err j e p := by
  obtain ⟨x, a, b1, c⟩ := st_er hN he
  have h2 := rd_err a n hm
  refine st_bind hl (st_bind (x := q) (j := j) (e1 := e) (.inr ⟨rfl, .inr ⟨x, h2, b1, c⟩⟩) (.inl ⟨he, rfl, rfl⟩))
/-! ### what lies in memory -/
theorem lay_snoc {w : World} {q : Vt} {na : Option Addr} {nc : Nat} {ka : Option Addr} {kc : Nat} {Lq : List Nat} (hq : VlL w q na nc ka kc Lq) : ∀ (f : Fo) {cs : List Value} {L : List Nat}, Lay w f cs L → Lay w (f.snoc q) (cs ++ six q.1 na nc ka q.2.list.length kc) (L ++ Lq)
  | .nil, cs, L, hl => by
    obtain ⟨rfl, rfl⟩ := hl
    exact (lay_cons (q := q)).2 ⟨na, nc, ka, kc, [], Lq, [], by simp, by simp, hq, ⟨rfl, rfl⟩⟩
  | .cons h kk r, cs, L, hl => by
    obtain ⟨na1, nc1, ka1, kc1, cs', L1, L2, rfl, rfl, hv, h7⟩ := (lay_cons (q := (h, kk))).1 hl
    exact (lay_cons (q := (h, kk))).2 ⟨na1, nc1, ka1, kc1, _, L1, _, by rw [List.append_assoc], by rw [List.append_assoc], hv, lay_snoc hq r h7⟩
structure Od (W : World) (r g6 g8 B : Nat) : Prop where
  r : r < W.heap.size
  l6 : W.heap.size ≤ g6
  l8 : g6 < g8
  lB : g8 < B
structure NI (B g6 g8 r : Nat) (ab : Option Addr) (cb : Nat) (L : List Nat) (W : World) (k : Int) (wr : World) (j : Nat) (e : Int) (ns : List ByteArray) (f : Fo) (vn vk : Value) (cs : List Value) (Lf : List Nat) : Prop where
  ro : Ro r ab cb L.length W wr j e
  b6 : Blk wr g6 41 zer
  b8 : Blk wr g8 41 [.int .i64 k, .int .i64 0, .int .i64 0, .string ⟨#[]⟩, vn, vk]
  nm : wr.ownsRow B 9 1 vn ns.length (ns.map Value.string)
  kd : wr.ownsRow B 41 6 vk f.list.length cs
  lay : Lay wr f cs Lf
  rng : ∀ x ∈ Lf, B ≤ x ∧ x < wr.heap.size ∧ vn.ownBlock ≠ some x ∧ vk.ownBlock ≠ some x
  nk : ∀ x, vn.ownBlock = some x → vk.ownBlock ≠ some x
  sz : B ≤ wr.heap.size
section
variable {B g6 g8 r : Nat} {ab : Option Addr} {cb : Nat} {L : List Nat} {W : World} {k : Int} {wr w' : World} {j j' : Nat} {e e' : Int} {ns : List ByteArray} {f : Fo} {vn vk : Value} {cs : List Value} {Lf : List Nat}
theorem NI.read (h : NI B g6 g8 r ab cb L W k wr j e ns f vn vk cs Lf) (o : Od W r g6 g8 B) (k' : Ro r ab cb L.length wr w' j' e') : NI B g6 g8 r ab cb L W k w' j' e' ns f vn vk cs Lf := by
  have o1 := o.r
  have o2 := o.l6
  have o3 := o.l8
  have o4 := o.lB
  refine ⟨h.ro.trans k', h.b6.kept k'.gr (by intro c; injection c with c; omega), h.b8.kept k'.gr (by intro c; injection c with c; omega), World.ownsRow.kept h.nm k'.gr (.inr fun c => ?_), World.ownsRow.kept h.kd k'.gr (.inr fun c => ?_), Lay.keep _ h.lay fun x hx => ?_, fun x hx => ?_, h.nk, Nat.le_trans h.sz k'.gr.size⟩
  · have := (World.ownsRow.lt h.nm _ c).1
    omega
  · have := (World.ownsRow.lt h.kd _ c).1
    omega
  · have := h.rng x hx
    exact k'.gr.block x this.2.1 (by intro c; injection c with c; omega)
  · have := h.rng x hx
    have := k'.gr.size
    exact ⟨by omega, by omega, (h.rng x hx).2.2⟩
theorem NI.below (h : NI B g6 g8 r ab cb L W k wr j e ns f vn vk cs Lf) (g : Below wr.heap.size wr w') : NI B g6 g8 r ab cb L W k w' j e ns f vn vk cs Lf := by
  have g' : wr.grownBy w' none := ⟨g.os, g.tape, g.output, g.size, fun x hx _ => g.block x hx⟩
  refine ⟨h.ro.then g, h.b6.below g h.b6.lt, h.b8.below g h.b8.lt, World.ownsRow.kept h.nm g' (by simpa using Classical.em _), World.ownsRow.kept h.kd g' (by simpa using Classical.em _), Lay.keep _ h.lay fun x hx => g.block x (h.rng x hx).2.1, fun x hx => ?_, h.nk, Nat.le_trans h.sz g.size⟩
  have := h.rng x hx
  have := g.size
  exact ⟨by omega, by omega, (h.rng x hx).2.2⟩
theorem ro_grown {N : Nat} {w1 : World} {row : Option Nat} (h : Ro r ab cb N W wr j e) (g : wr.grownBy w1 row) (hr : ∀ x, row = some x → x ≠ r ∧ W.heap.size ≤ x) : Ro r ab cb N W w1 j e := by
  refine ⟨h.blk.kept g (fun c => (hr r c.symm).1 rfl), h.le, ⟨g.os.trans h.gr.os, g.tape.trans h.gr.tape, g.output.trans h.gr.output, Nat.le_trans h.gr.size g.size, fun x hx hne => (g.block x (Nat.lt_of_lt_of_le hx h.gr.size) ?_).trans (h.gr.block x hx hne)⟩⟩
  intro c
  have := (hr x c.symm).2
  omega
/-- A name more. -/
theorem NI.name {w1 w2 w3 : World} {vn' : Value} {s : ByteArray} (h : NI B g6 g8 r ab cb L W k wr j e ns f vn vk cs Lf) (o : Od W r g6 g8 B) (hb : Below wr.heap.size wr w1) (g : w1.grownBy w2 vn.ownBlock) (hn : w2.ownsRow B 9 1 vn' (ns.length + 1) (ns.map Value.string ++ [.string s])) (hat : vn'.ownBlock = vn.ownBlock ∨ vn'.ownBlock = some w1.heap.size)
    (hs : Blk w3 g8 41 [.int .i64 k, .int .i64 0, .int .i64 0, .string ⟨#[]⟩, vn', vk]) (g3 : w2.grownBy w3 (some g8)) : NI B g6 g8 r ab cb L W k w3 j e (ns ++ [s]) f vn' vk cs Lf := by
  have o1 := o.r
  have o2 := o.l6
  have o3 := o.l8
  have o4 := o.lB
  have h1 := h.below hb
  have hsz := h.ro.gr.size
  have hsz1 := hb.size
  have ln := fun x c => World.ownsRow.lt h1.nm x c
  have lk := fun x c => World.ownsRow.lt h1.kd x c
  have ro2 := ro_grown h1.ro g (fun x c => by have := ln x c; omega)
  have ro3 := ro_grown ro2 g3 (fun x c => by injection c with c; omega)
  have ln' := fun x c => World.ownsRow.lt hn x c
  refine ⟨ro3, (h1.b6.kept g fun c => ?_).kept g3 (by intro c; injection c with c; omega), hs, ?_, World.ownsRow.kept (World.ownsRow.kept h1.kd g ?_) g3 (.inr fun c => ?_), Lay.keep _ h1.lay fun x hx => ?_, fun x hx => ?_, fun x c => ?_, Nat.le_trans h1.sz (Nat.le_trans g.size g3.size)⟩
  · have := ln _ c.symm
    omega
  · rw [List.length_append, List.map_append]
    exact World.ownsRow.kept hn g3 (.inr fun c => by have := ln' _ c; omega)
  · cases hv : vk.ownBlock with
    | none => exact .inl rfl
    | some x => exact .inr fun c => h1.nk x c.symm hv
  · have := lk _ c
    omega
  · obtain ⟨a1, a2, a3, a4⟩ := h1.rng x hx
    rw [g3.block x (Nat.lt_of_lt_of_le a2 g.size) (by intro c; injection c with c; omega)]
    exact g.block x a2 (fun c => a3 c.symm)
  · obtain ⟨a1, a2, a3, a4⟩ := h1.rng x hx
    have := g.size
    have := g3.size
    refine ⟨a1, by omega, ?_, a4⟩
    rcases hat with c | c
    · rw [c]; exact a3
    · rw [c]; intro c; injection c with c; omega
  · rcases hat with c2 | c2
    · exact h1.nk x (by rw [← c2]; exact c)
    · intro c3
      rw [c2] at c
      injection c with c
      have := lk x c3
      omega
/-- A kid more. -/
theorem NI.kid {w1 w2 w3 : World} {vk' : Value} {q : Vt} {na : Option Addr} {nc : Nat} {ka : Option Addr} {kc : Nat} {Lq : List Nat} (h : NI B g6 g8 r ab cb L W k wr j e ns f vn vk cs Lf) (o : Od W r g6 g8 B) (hv : VlL wr q na nc ka kc Lq) (hr : ∀ x ∈ Lq, B ≤ x ∧ x < wr.heap.size ∧ vn.ownBlock ≠ some x ∧ vk.ownBlock ≠ some x)
    (hb : Below wr.heap.size wr w1) (g : w1.grownBy w2 vk.ownBlock) (hn : w2.ownsRow B 41 6 vk' (f.list.length + 1) (cs ++ six q.1 na nc ka q.2.list.length kc)) (hat : vk'.ownBlock = vk.ownBlock ∨ vk'.ownBlock = some w1.heap.size)
    (hs : Blk w3 g8 41 [.int .i64 k, .int .i64 0, .int .i64 0, .string ⟨#[]⟩, vn, vk']) (g3 : w2.grownBy w3 (some g8)) : NI B g6 g8 r ab cb L W k w3 j e ns (f.snoc q) vn vk' (cs ++ six q.1 na nc ka q.2.list.length kc) (Lf ++ Lq) := by
  have o1 := o.r
  have o2 := o.l6
  have o3 := o.l8
  have o4 := o.lB
  have h1 := h.below hb
  have hsz := h.ro.gr.size
  have hsz1 := hb.size
  have ln := fun x c => World.ownsRow.lt h1.nm x c
  have lk := fun x c => World.ownsRow.lt h1.kd x c
  have ro2 := ro_grown h1.ro g (fun x c => by have := lk x c; omega)
  have ro3 := ro_grown ro2 g3 (fun x c => by injection c with c; omega)
  have lk' := fun x c => World.ownsRow.lt hn x c
  have kp : ∀ x, B ≤ x → x < w1.heap.size → vk.ownBlock ≠ some x → w3.heap[x]? = w1.heap[x]? := fun x a1 a2 a4 => by
    rw [g3.block x (Nat.lt_of_lt_of_le a2 g.size) (by intro c; injection c with c; omega)]
    exact g.block x a2 (fun c => a4 c.symm)
  refine ⟨ro3, (h1.b6.kept g fun c => ?_).kept g3 (by intro c; injection c with c; omega), hs, World.ownsRow.kept (World.ownsRow.kept h1.nm g ?_) g3 (.inr fun c => ?_), ?_, lay_snoc (VlL.keep hv fun x hx => ?_) _ (Lay.keep _ h1.lay fun x hx => ?_), fun x hx => ?_, fun x c => ?_, Nat.le_trans h1.sz (Nat.le_trans g.size g3.size)⟩
  · have := lk _ c.symm
    omega
  · cases hv : vn.ownBlock with
    | none => exact .inl rfl
    | some x => exact .inr fun c => h1.nk x hv c.symm
  · have := ln _ c
    omega
  · rw [snoc_list, List.length_append]
    exact World.ownsRow.kept hn g3 (.inr fun c => by have := lk' _ c; omega)
  · obtain ⟨a1, a2, a3, a4⟩ := hr x hx
    rw [kp x a1 (by omega) a4]
    exact hb.block x a2
  · obtain ⟨a1, a2, a3, a4⟩ := h1.rng x hx
    exact kp x a1 a2 a4
  · have g1 := g.size
    have g2 := g3.size
    have key : B ≤ x ∧ x < w1.heap.size ∧ vn.ownBlock ≠ some x ∧ vk.ownBlock ≠ some x := by
      rcases List.mem_append.1 hx with hx | hx
      · exact h1.rng x hx
      · obtain ⟨a1, a2, a3, a4⟩ := hr x hx
        exact ⟨a1, by omega, a3, a4⟩
    refine ⟨key.1, by omega, key.2.2.1, ?_⟩
    rcases hat with c | c
    · rw [c]; exact key.2.2.2
    · rw [c]; intro c; injection c with c; have := key.2.1; omega
  · intro c3
    rcases hat with c2 | c2
    · exact h1.nk x c (by rw [← c2]; exact c3)
    · rw [c2] at c3
      injection c3 with c3
      have := ln x c
      omega
/-- What is answered in the end. -/
theorem NI.val (h : NI B g6 g8 r ab cb L W k wr j e ns f vn vk cs Lf) : ∃ na nc ka kc Lp, vn = .slice na ns.length nc ∧ vk = .slice ka f.list.length kc ∧ VlL wr (nst k (f, ns)) na nc ka kc Lp ∧ ∀ x ∈ Lp, B ≤ x ∧ x < wr.heap.size := by
  obtain ⟨na, nc, Ln, e1, n1, n2, n3, _⟩ := nml_of h.nm
  have hk := h.kd
  have hk' := h.kd
  rcases hk with ⟨_, ⟨e2, h0⟩ | ⟨g, cap, cur, e2, hg, hh, hle, hm, _⟩⟩
  · have hf : f = .nil := by
      cases f with
      | nil => rfl
      | cons a b c => simp [Fo.list] at h0
    subst hf
    refine ⟨na, nc, none, 0, Ln, e1, by rw [e2]; rfl, ⟨Ln, [], by simp, n1, n2, ⟨Nat.le_refl _, fun _ => rfl, by decide⟩, .inl ⟨rfl, rfl⟩⟩, fun x hx => ?_⟩
    exact World.ownsRow.lt h.nm x (n3 x hx)
  · refine ⟨na, nc, some ⟨g, 0, none⟩, cap, Ln ++ (g :: Lf), e1, e2, ⟨Ln, g :: Lf, rfl, n1, n2, ⟨hle, fun c => (by cases c), hm⟩, .inr ⟨g, 0, cs, Lf, rfl, rfl, fun i => ?_, fun j u hj => ?_, h.lay⟩⟩, fun x hx => ?_⟩
    · rw [e2] at hk'
      exact World.ownsRow.frozenAt hk' i
    · have := World.ownsRow.cells hk' (g := g) (by rw [e2]; rfl) j u hj
      rw [Addr.add_lit] at this
      exact this
    · rcases List.mem_append.1 hx with hx | hx
      · exact World.ownsRow.lt h.nm x (n3 x hx)
      · rcases List.mem_cons.1 hx with rfl | hx
        · exact World.ownsRow.lt h.kd x (by rw [e2]; rfl)
        · have := h.rng x hx
          exact ⟨this.1, this.2.1⟩
end
end Go.Proofs.YtmbglggodifboaaGreatDoor
