/-
  A struct with a field, over trees, and in memory.
-/
import Derived.Test.YtiddlpjnfophhaaIn34
import Derived.Test.YtiddlpjnfophhaaIn35
namespace Go.Proofs.Ytiddlpjnfophhaa
open Go.RowKit
set_option linter.unusedVariables false
def Fo.app : Fo → Fo → Fo
  | .nil, g => g
  | .cons h k r, g => .cons h k (Fo.app r g)
theorem Fo.app_list : ∀ (f g : Fo), (f.app g).list = f.list ++ g.list
  | .nil, g => rfl
  | .cons h k r, g => by simp only [Fo.app, Fo.list, List.cons_append]; rw [Fo.app_list r g]
theorem Fo.take_list : ∀ (n : Nat) (f : Fo), (f.take n).list = f.list.take n
  | 0, f => by cases f <;> rfl
  | n + 1, .nil => rfl
  | n + 1, .cons h k r => by simp only [Fo.take, Fo.list, List.take_succ_cons]; rw [Fo.take_list n r]
theorem Fo.drop_list : ∀ (n : Nat) (f : Fo), (f.drop n).list = f.list.drop n
  | 0, f => by simp [Fo.drop]
  | n + 1, .nil => rfl
  | n + 1, .cons h k r => by simp only [Fo.drop, Fo.list, List.drop_succ_cons]; rw [Fo.drop_list n r]
theorem Lay.app {w : World} : ∀ {f g : Fo} {c1 c2 : List Value} {L1 L2 : List Nat}, Lay w f c1 L1 → Lay w g c2 L2 → Lay w (f.app g) (c1 ++ c2) (L1 ++ L2)
  | .nil, g, c1, c2, L1, L2, ⟨h1, h2⟩, h => by rw [h1, h2]; exact h
  | .cons hd k r, g, c1, c2, L1, L2, h1, h2 => by
    obtain ⟨na, nc, ka, kc, cs', La, Lb, rfl, rfl, hv, hr⟩ := (lay_cons (q := (hd, k))).1 h1
    exact (lay_cons (q := (hd, k))).2 ⟨na, nc, ka, kc, cs' ++ c2, La, Lb ++ L2, by rw [List.append_assoc], by rw [List.append_assoc], hv, hr.app h2⟩
theorem Lay.split {w : World} : ∀ {f : Fo} {cs : List Value} {L : List Nat} (k : Nat), Lay w f cs L → ∃ L1 L2, L = L1 ++ L2 ∧ Lay w (f.take k) (cs.take (k * 6)) L1 ∧ Lay w (f.drop k) (cs.drop (k * 6)) L2
  | f, cs, L, 0, h => ⟨[], L, rfl, by cases f <;> exact ⟨by simp, rfl⟩, by simpa [Fo.drop] using h⟩
  | .nil, cs, L, k + 1, ⟨h1, h2⟩ => ⟨[], [], by rw [h2]; rfl, by rw [h1]; exact ⟨by simp, rfl⟩, by rw [h1]; exact ⟨by simp, rfl⟩⟩
  | .cons hd kk r, cs, L, k + 1, h => by
    obtain ⟨na, nc, ka, kc, cs', La, Lb, rfl, rfl, hv, hr⟩ := (lay_cons (q := (hd, kk))).1 h
    obtain ⟨L1, L2, rfl, e1, e2⟩ := hr.split k
    refine ⟨La ++ L1, L2, by rw [List.append_assoc], ?_, ?_⟩
    · refine (lay_cons (q := (hd, kk))).2 ⟨na, nc, ka, kc, cs'.take (k * 6), La, L1, ?_, rfl, hv, e1⟩
      rw [List.take_append, List.take_of_length_le (by rw [six_length]; omega), six_length]
      congr 2
      omega
    · have : (six hd na nc ka kk.list.length kc ++ cs').drop ((k + 1) * 6) = cs'.drop (k * 6) := by
        rw [List.drop_append, List.drop_of_length_le (by rw [six_length]; omega), List.nil_append, six_length]
        congr 1
        omega
      rw [this]
      exact e2
theorem lay_one {w : World} (f : Fo) : ∀ {cs : List Value} {L : List Nat}, Lay w f cs L → ∀ u ∈ cs, u.oneCell' = true := by
  induction f with
  | nil => rintro cs L ⟨rfl, _⟩ u hu; cases hu
  | cons h k r _ ihr =>
    rintro cs L ⟨na, nc, ka, kc, cs', Ln, Lk, L2, rfl, _, _, _, _, _, h7⟩ u hu
    rcases List.mem_append.1 hu with hu | hu
    · exact six_one _ _ _ _ _ _ u hu
    · exact ihr h7 u hu
/-! ### a struct with a field -/
def lyT (p : Vt) (name : ByteArray) : Nat := if p.1.ns[cnt p.1.ns name]? = some name then cnt p.1.ns name + 1 else cnt p.1.ns name
def layN (p : Vt) (name : ByteArray) : List ByteArray := p.1.ns.take (cnt p.1.ns name) ++ (name :: p.1.ns.drop (lyT p name))
def layH (p : Vt) (name : ByteArray) : Hd := { p.1 with ns := layN p name }
def layV (p : Vt) (name : ByteArray) (x : Vt) : Vt := (layH p name, (p.2.take (cnt p.1.ns name)).app (.cons x.1 x.2 (p.2.drop (lyT p name))))
theorem lyT_le (p : Vt) (name : ByteArray) : cnt p.1.ns name ≤ lyT p name ∧ lyT p name ≤ p.1.ns.length := by
  have := cnt_le p.1.ns name
  unfold lyT
  split
  · rename_i h
    have := (List.getElem?_eq_some_iff.1 h).1
    omega
  · omega
theorem lay_len (p : Vt) (name : ByteArray) (x : Vt) (h : p.1.ns.length = p.2.list.length) : (layV p name x).2.list.length = (layN p name).length := by
  have := lyT_le p name
  simp only [layV, layN, Fo.app_list, Fo.take_list, Fo.list, Fo.drop_list, List.length_append, List.length_take, List.length_cons, List.length_drop]
  omega
theorem fo_wf {f : Fo} : (∀ q ∈ f.list, WfV q) → Wf f := by
  induction f with
  | nil => intro _; trivial
  | cons h k r _ ihr => intro hq; exact ⟨hq (h, k) (by simp [Fo.list]), ihr fun q hq' => hq q (by simp [Fo.list, hq'])⟩
theorem lay_wf {p x : Vt} {name : ByteArray} (hp : WfV p) (hx : WfV x) (hs : name.size ≤ 500) (hn : p.1.ns.length ≤ 100000) (hk : p.2.list.length ≤ 100000) : WfV (layV p name x) := by
  refine ⟨⟨hp.1.k0, hp.1.k1, hp.1.n0, hp.1.n1, hp.1.s0, hp.1.s1, hp.1.t1, ?_, ?_⟩, ?_, fo_wf ?_⟩
  · show (layN p name).length ≤ _
    have := lyT_le p name
    simp only [layN, List.length_append, List.length_take, List.length_cons, List.length_drop]
    omega
  · intro y hy
    have hy' : y ∈ layN p name := hy
    simp only [layN, List.mem_append, List.mem_cons] at hy'
    rcases hy' with h | rfl | h
    · exact hp.1.e1 y (List.mem_of_mem_take h)
    · omega
    · exact hp.1.e1 y (List.mem_of_mem_drop h)
  · simp only [layV, Fo.app_list, Fo.take_list, Fo.list, Fo.drop_list, List.length_append, List.length_take, List.length_cons, List.length_drop]
    omega
  · intro q hq
    simp only [layV, Fo.app_list, Fo.take_list, Fo.list, Fo.drop_list, List.mem_append, List.mem_cons] at hq
    rcases hq with h | rfl | h
    · exact hp.kid (List.mem_of_mem_take h)
    · exact hx
    · exact hp.kid (List.mem_of_mem_drop h)
theorem ws_app : ∀ (f g : Fo), (f.app g).ws = f.ws + g.ws
  | .nil, g => by simp [Fo.app, Fo.ws]
  | .cons h k r, g => by simp only [Fo.app, Fo.ws]; rw [ws_app r g]; omega
theorem ws_take : ∀ (n : Nat) (f : Fo), (f.take n).ws ≤ f.ws
  | 0, f => by cases f <;> simp [Fo.take, Fo.ws]
  | n + 1, .nil => by simp [Fo.take]
  | n + 1, .cons h k r => by simp only [Fo.take, Fo.ws]; have := ws_take n r; omega
theorem ws_drop : ∀ (n : Nat) (f : Fo), (f.drop n).ws ≤ f.ws
  | 0, f => by simp [Fo.drop]
  | n + 1, .nil => by simp [Fo.drop]
  | n + 1, .cons h k r => by simp only [Fo.drop, Fo.ws]; have := ws_drop n r; omega
theorem lay_ws (p x : Vt) (name : ByteArray) : ws (layV p name x) ≤ 2 * ws p + ws x + 1 := by
  have h1 := ws_take (cnt p.1.ns name) p.2
  have h2 := ws_drop (lyT p name) p.2
  have h3 := lyT_le p name
  simp only [ws, layV, ws_app, Fo.ws, wsH, layH, layN, List.length_append, List.length_take, List.length_cons, List.length_drop]
  omega
/-- The field's name has the field. -/
def wthE (p : Vt) (name : ByteArray) (x : Vt) : Int := if chkV p 1 ≠ 0 then chkV p 1 else if p.1.k ≠ 9 then 11 else if chkV x 1 ≠ 0 then chkV x 1 else chkV (layV p name x) 1
def wthV (p : Vt) (name : ByteArray) (x : Vt) : Vt := if wthE p name x = 0 then layV p name x else nulV
/-! ### what With makes -/
structure Tst (S0 : Nat) (p : Vt) (B4 : Nat) (nsx : List ByteArray) (na : Option Addr) (nc : Nat) (kn : Nat) (ka : Option Addr) (kc : Nat) (cells ks : List Value) (L : List Nat) (w : World) : Prop where
  lo : S0 ≤ B4
  b4 : Blk w B4 25 (six { p.1 with ns := nsx } na nc ka kn kc)
  ownN : w.ownsRow S0 9 1 (.slice na nsx.length nc) nsx.length (nsx.map Value.string)
  ownK : w.ownsRow S0 25 6 (.slice ka kn kc) kn cells
  lay : Lay w p.2 ks L
  rng : ∀ x ∈ L, S0 ≤ x ∧ x < w.heap.size
  nd : L.Nodup
  bL : B4 ∉ L
  obN : ∀ x, (Value.slice na nsx.length nc).ownBlock = some x → x ∉ L ∧ x ≠ B4 ∧ (Value.slice ka kn kc).ownBlock ≠ some x
  obK : ∀ x, (Value.slice ka kn kc).ownBlock = some x → x ∉ L ∧ x ≠ B4
theorem own_base {w : World} {B B' e size n : Nat} {v : Value} {xs : List Value} (h : w.ownsRow B e size v n xs) (hb : B' ≤ B) : w.ownsRow B' e size v n xs := by
  refine ⟨h.1, ?_⟩
  rcases h.2 with h' | ⟨g, cap, cur, e1, e2, e3⟩
  · exact .inl h'
  · exact .inr ⟨g, cap, cur, e1, Nat.le_trans hb e2, e3⟩
theorem own_none {w w' : World} {B e size n : Nat} {v : Value} {xs : List Value} (h : w.ownsRow B e size v n xs) (g : w.grownBy w' none) : w'.ownsRow B e size v n xs :=
  World.ownsRow.kept h g (by cases hob : v.ownBlock <;> simp)
theorem Tst.start {S0 : Nat} {p : Vt} {na : Option Addr} {nc : Nat} {ka : Option Addr} {kc : Nat} {Ln : List Nat} {ks : List Value} {L : List Nat} {B : Nat} {w w' : World} (h : Top w B p na nc ka kc Ln ks L) (hB : S0 ≤ B) (hs : S0 ≤ w.heap.size) (hw : w' = w.alloc (.cells (six p.1 na nc ka p.2.list.length kc).toArray 25)) :
    Tst S0 p w.heap.size p.1.ns na nc p.2.list.length ka kc ks ks L w' := by
  subst hw
  have g := World.grownBy_alloc w (.cells (six p.1 na nc ka p.2.list.length kc).toArray 25) none
  have l1 := World.ownsRow.lt h.ownN
  have l2 := World.ownsRow.lt h.ownK
  refine ⟨by omega, blk_new w 25 _, own_none (own_base h.ownN hB) g, own_none (own_base h.ownK hB) g, Lay.keep _ h.lay fun x hx => g.block x (h.rng x hx).2 (by simp), fun x hx => ?_, h.nd, fun c => ?_, fun x hx => ?_, fun x hx => ?_⟩
  · have := h.rng x hx
    have := g.size
    omega
  · have := (h.rng _ c).2; omega
  · have := (l1 x hx).2
    exact ⟨(h.obN x hx).1, by omega, (h.obN x hx).2⟩
  · have := (l2 x hx).2
    exact ⟨h.obK x hx, by omega⟩
end Go.Proofs.Ytiddlpjnfophhaa
