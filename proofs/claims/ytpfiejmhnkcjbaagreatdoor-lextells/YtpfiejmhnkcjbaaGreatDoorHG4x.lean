/-
   ·  ·  ·  ·  ·  · 
-/
import Derived.Test.YtpfiejmhnkcjbaaGreatDoorHG3x
import Derived.Deep.MidRow
import Derived.Maps.AppendAt
import Derived.Laws.AppendOwnNone
import Derived.Test.YtpfiejmhnkcjbaaGreatDoorHG1x
import Derived.Test.YtpfiejmhnkcjbaaGreatDoorHG2x
import Derived.Lib.AppendStr
namespace Go.Proofs.YtpfiejmhnkcjbaaGreatDoor
set_option maxHeartbeats 4000000
set_option maxRecDepth 8000
open Go.RowKit
set_option linter.unusedVariables false
theorem formed_leaf {h : Hd} {kl : Nat} (hk : h.k = 1 ∨ h.k = 2 ∨ h.k = 3 ∨ h.k = 4 ∨ h.k = 5 ∨ h.k = 6 ∨ h.k = 7) (hf : formed h kl = true) : kl = 0 := by
 rcases hk with hk | hk | hk | hk | hk | hk | hk <;> simp [formed, only, hk] at hf <;> omega
theorem list_nil {f : Fo} (h : f.list.length = 0) : f = .nil := by
 cases f with
 | nil => rfl
 | cons h k r => simp [Fo.list] at h
theorem leaf_chk {p : Vt} {d : Int} (hd : d <= 16) (hk : p.1.k = 1 ∨ p.1.k = 2 ∨ p.1.k = 3 ∨ p.1.k = 4 ∨ p.1.k = 5 ∨ p.1.k = 6 ∨ p.1.k = 7) : own p.1 p.2.list.length = chkV p d := by
 by_cases h : own p.1 p.2.list.length = 0
 . rw [h, chkV_kids hd h]
   cases hf : formed p.1 p.2.list.length with
   | false => rw [<- own_no hf] at h; omega
   | true => rw [list_nil (formed_leaf hk hf)]; rfl
 . exact chkV_own hd h
theorem rcheck_none (h : Hd) (na : Option Addr) (nc : Nat) (ka : Option Addr) (kl kc : Nat) (k1 : ¬ h.k = 1) (k2 : ¬ h.k = 2) (k3 : ¬ h.k = 3) (k4 : ¬ h.k = 4) (k5 : ¬ h.k = 5) (k6 : ¬ h.k = 6) (k7 : ¬ h.k = 7) (k8 : ¬ h.k = 8) (k9 : ¬ h.k = 9) (d : Int) (hd : d <= 16) (w : World) :
 Calls Tryz.prog 44 #[.agg #[.int .i64 h.k, .int .i64 h.n, .int .i64 h.s, .string h.t, .slice na h.ns.length nc, .slice ka kl kc], .int .i64 d] w fun e w' => e = .returned (.int .i64 3) /\ Below w.heap.size w w' := by
 go_enter Tryz.func44, Tryz.ntmps44
 go_wp2
 all_goals
  go_ret
  exact ⟨rfl, (Below.refl _ _).alloc (Nat.le_refl _) _⟩
theorem rcheck_deep (h : Hd) (na : Option Addr) (nc : Nat) (ka : Option Addr) (kl kc : Nat) (d : Int) (hd : 16 < d) (w : World) :
 Calls Tryz.prog 44 #[.agg #[.int .i64 h.k, .int .i64 h.n, .int .i64 h.s, .string h.t, .slice na h.ns.length nc, .slice ka kl kc], .int .i64 d] w fun e w' => e = .returned (.int .i64 9) /\ Below w.heap.size w w' := by
 go_enter Tryz.func44, Tryz.ntmps44
 go_wp2
 go_ret
 exact ⟨rfl, (Below.refl _ _).alloc (Nat.le_refl _) _⟩
theorem rcheck_any : ∀ (n : Nat) (p : Vt), wt p <= n -> WfV p -> ∀ (na : Option Addr) (nc : Nat) (ka : Option Addr) (kc : Nat) (d : Int) (W : World), 0 <= d -> d <= 17 -> Vl W p na nc ka kc ->
 Calls Tryz.prog 44 #[.agg #[.int .i64 p.1.k, .int .i64 p.1.n, .int .i64 p.1.s, .string p.1.t, .slice na p.1.ns.length nc, .slice ka p.2.list.length kc], .int .i64 d] W fun e w' => e = .returned (.int .i64 (chkV p d)) /\ Below W.heap.size W w' := by
 intro n
 induction n with
 | zero => intro p hp; exfalso; unfold wt at hp; omega
 | succ n ih =>
   intro p hp hwf na nc ka kc d W hd0 hd1 hv
   have hI : RIh 44 p := fun q hq hwq na nc ka kc d W h1 h2 h3 => ih q (by omega) hwq na nc ka kc d W h1 h2 h3
   by_cases hd : d <= 16
   case neg =>
    refine (rcheck_deep p.1 na nc ka _ kc d (by omega) W).mono ?_
    rintro e w' ⟨rfl, hb⟩
    exact ⟨ret_int (by rw [chkV, if_pos (by omega)]), hb⟩
   by_cases k1 : p.1.k = 1
   . rw [<- leaf_chk hd (.inl k1)]; exact rcheck_1 p.1 na nc ka _ kc k1 hwf.1.t1 d hd W
   by_cases k2 : p.1.k = 2
   . rw [<- leaf_chk hd (.inr (.inl k2))]; exact rcheck_2 p.1 na nc ka _ kc k2 hwf.1.t1 d hd W
   by_cases k3 : p.1.k = 3
   . rw [<- leaf_chk hd (.inr (.inr (.inl k3)))]; exact rcheck_3 p.1 na nc ka _ kc k3 hwf.1.t1 d hd W
   by_cases k4 : p.1.k = 4
   . rw [<- leaf_chk hd (.inr (.inr (.inr (.inl k4))))]; exact rcheck_4 p.1 na nc ka _ kc k4 hwf.1.t1 d hd W
   by_cases k5 : p.1.k = 5
   . rw [<- leaf_chk hd (.inr (.inr (.inr (.inr (.inl k5)))))]; exact rcheck_5 p.1 na nc ka _ kc k5 hwf.1.t1 d hd W
   by_cases k6 : p.1.k = 6
   . rw [<- leaf_chk hd (.inr (.inr (.inr (.inr (.inr (.inl k6))))))]; exact rcheck_6 p.1 na nc ka _ kc k6 hwf.1.t1 d hd W
   by_cases k7 : p.1.k = 7
   . rw [<- leaf_chk hd (.inr (.inr (.inr (.inr (.inr (.inr k7))))))]; exact rcheck_7 p.1 na nc ka _ kc k7 hwf.1.t1 d hd W
   by_cases k8 : p.1.k = 8
   . exact rcheck_8 p hI hwf na nc ka kc k8 d hd0 hd W hv
   by_cases k9 : p.1.k = 9
   . exact rcheck_9 p hI hwf na nc ka kc k9 d hd0 hd W hv
   refine (rcheck_none p.1 na nc ka _ kc k1 k2 k3 k4 k5 k6 k7 k8 k9 d hd W).mono ?_
   rintro e w' ⟨rfl, hb⟩
   have hf : formed p.1 p.2.list.length = false := by simp [formed, k1, k2, k3, k4, k5, k6, k7, k8, k9]
   exact ⟨ret_int ((own_no hf).trans (chkV_own hd (by rw [<- own_no hf]; decide))), hb⟩
theorem rCheck_any : CkC 26 := by
 intro p hwf na nc ka kc W hv
 have HQ : Hid (∀ W', Vl W' p na nc ka kc -> Calls Tryz.prog 44 #[.agg #[.int .i64 p.1.k, .int .i64 p.1.n, .int .i64 p.1.s, .string p.1.t, .slice na p.1.ns.length nc, .slice ka p.2.list.length kc], .int .i64 1] W' fun e w' => e = .returned (.int .i64 (chkV p 1)) /\ Below W'.heap.size W' w') := fun W' h => rcheck_any _ p (Nat.le_refl _) hwf na nc ka kc 1 W' (by omega) (by omega) h
 generalize chkV p 1 = E at *
 have HV : Hid (Vl W p na nc ka kc) := hv
 clear hv
 go_enter Tryz.func26, Tryz.ntmps26
 go_wp2_with fail
 refine (HQ.out _ (HV.out.below ((Below.refl _ _).alloc (Nat.le_refl _) _))).mono ?_
 rintro e w2 ⟨rfl, hb2⟩
 have HB : Hid (Below W.heap.size W w2) := box_below _ hb2
 clear hb2 HQ
 go_wp2
 go_ret
 exact ⟨rfl, HB.out⟩
end Go.Proofs.YtpfiejmhnkcjbaaGreatDoor
namespace Go.Proofs.YtpfiejmhnkcjbaaGreatDoor
open Go.RowKit
set_option linter.unusedVariables false
theorem q_region {P : Program} {C : World -> Prop} {id : Nat} {Q : Exit -> Act -> World -> Prop} {a : Act} {w : World} {l : List Oper} (hm : P.follows .mixedOrders = true) (hB : Region.lexB .any l.toArray = true) (hC : C { w with drawn := w.drawn + 1 })
 (h : wpQuiet P l.toArray C (fun a' => ∀ w', C w' -> Q .normal a' w') l a) : (Code.region id l.toArray true).wp P Q a w :=
 wp_region_quiet hm hB hC (by simpa using h)
theorem q_val {C : World -> Prop} {a : Act} {o : Oper} {K : Act -> Prop} (x : Operand) (ho : o.op = .load 41 x) (b k : Nat) (hx : a.eval x = .pointer (some ⟨b, k, none⟩)) (h : Hd) (na : Option Addr) (nc : Nat) (ka : Option Addr) (kl kc : Nat) (hS : ∀ w, C w -> Nd w b k h na nc ka kl kc)
 (hk : K (a.put o.dst (.agg #[.int .i64 h.k, .int .i64 h.n, .int .i64 h.s, .string h.t, .slice na h.ns.length nc, .slice ka kl kc]))) : o.quiet Tryz.prog a C K :=
 ⟨_, fun w hw => by
   obtain ⟨h0, h1, h2, h3, h4, h5⟩ := hS w hw
   unfold Oper.quietAt execOp
   simp only [ho, hx]
   go_simp, hk⟩
theorem bytes_eq {a b : ByteArray} (h : a.toList = b.toList) : a = b := by
 rw [ByteArray.toList_eq, ByteArray.toList_eq] at h
 cases a; cases b
 simp only [ByteArray.mk.injEq]
 exact Array.ext' h
end Go.Proofs.YtpfiejmhnkcjbaaGreatDoor
namespace Go.Proofs.YtpfiejmhnkcjbaaGreatDoor
open Go.RowKit
set_option linter.unusedVariables false
def Blk (w : World) (b : Nat) (t : TypeId) (vs : List Value) : Prop := w.heap[b]? = some (.cells vs.toArray t (0, 0))
theorem Blk.lt {w : World} {b : Nat} {t : TypeId} {vs : List Value} (h : Blk w b t vs) : b < w.heap.size := (Array.getElem?_eq_some_iff.1 h).1
theorem Blk.cell {w : World} {b : Nat} {t : TypeId} {vs : List Value} (h : Blk w b t vs) (i : Nat) : w.cell? ⟨b, i, none⟩ = vs[i]? := by
 rw [cell_of_row w b i _ t (0, 0) h]; simp
theorem Blk.frozen {w : World} {b : Nat} {t : TypeId} {vs : List Value} (h : Blk w b t vs) (i : Nat) : w.frozen? ⟨b, i, none⟩ = false := frozen_of_row w b i _ t h
theorem Blk.kept {w w' : World} {b : Nat} {t : TypeId} {vs : List Value} {row : Option Nat} (h : Blk w b t vs) (hg : w.grownBy w' row) (hne : some b ≠ row) : Blk w' b t vs := by
 unfold Blk; rw [hg.block b h.lt hne]; exact h
theorem Blk.alloc {w : World} {b : Nat} {t : TypeId} {vs : List Value} (h : Blk w b t vs) (o : Obj) : Blk (w.alloc o) b t vs := h.kept (World.grownBy_alloc w o none) (by simp)
theorem blk_new (w : World) (t : TypeId) (vs : List Value) : Blk (w.alloc (.cells vs.toArray t)) w.heap.size t vs := heap_alloc_new w _
theorem grown_setCell (w : World) (a : Addr) (u : Value) : w.grownBy (w.setCell a u) (some a.block) :=
 ⟨rfl, rfl, rfl, by simp [World.setCell], fun k _ hk => Below.heap_setCell _ _ _ _ (fun e => hk (by rw [e]))⟩
theorem Blk.set {w : World} {b : Nat} {t : TypeId} {vs : List Value} (h : Blk w b t vs) (i : Nat) (v : Value) : Blk (w.setCell ⟨b, i, none⟩ v) b t (vs.set i v) := by
 have := heap_setCell_same w b i _ t v h
 unfold Blk; rw [this]; simp
def wsH (h : Hd) : Nat := 1 + h.t.size / 20 + h.ns.length
def Fo.ws : Fo -> Nat
 | .nil => 0
 | .cons h k r => wsH h + k.ws + r.ws
def ws (p : Vt) : Nat := wsH p.1 + p.2.ws
end Go.Proofs.YtpfiejmhnkcjbaaGreatDoor
namespace Go.Proofs.YtpfiejmhnkcjbaaGreatDoor
open Go.RowKit
set_option linter.unusedVariables false
theorem Blk.there {w : World} {b : Nat} {t : TypeId} {vs : List Value} (h : Blk w b t vs) (o n : Nat) (hn : o + n <= vs.length) : w.there b o n := fun j hj => by
 refine ⟨?_, h.frozen _⟩
 rw [h.cell, List.getElem?_eq_getElem (by omega)]; rfl
theorem Blk.below {w w' : World} {b B : Nat} {t : TypeId} {vs : List Value} (h : Blk w b t vs) (hg : Below B w w') (hb : b < B) : Blk w' b t vs := by
 unfold Blk; rw [hg.block b hb]; exact h
theorem grown_setCells (b : Nat) : ∀ (vs : List Value) (o : Nat) (w : World), w.grownBy (w.setCells b o vs) (some b)
 | [], _, w => World.grownBy.refl w _
 | v :: r, o, w => (grown_setCell w ⟨b, o, none⟩ v).trans (grown_setCells b r (o + 1) _)
theorem Blk.setCells {b : Nat} {t : TypeId} (q : List Value) : ∀ (m' m p : List Value) (w : World), m'.length = m.length -> Blk w b t (p ++ (m ++ q)) -> Blk (w.setCells b p.length m') b t (p ++ (m' ++ q))
 | [], [], p, w, _, h => h
 | v :: r, u :: m, p, w, hl, h => by
   have h1 := h.set p.length v
   have e : (p ++ (u :: m ++ q)).set p.length v = (p ++ [v]) ++ (m ++ q) := by
    rw [List.set_append_right _ _ (Nat.le_refl _), Nat.sub_self]; simp
   rw [e] at h1
   have h2 := Blk.setCells q r m (p ++ [v]) _ (by simpa using hl) h1
   rw [World.setCells]
   simpa using h2
section
variable {P : Program} {ops : Array Oper} {rest : List Oper} {o : Oper} {a : Act} {w : World} {Q : Exit -> Act -> World -> Prop}
theorem st_row (hg : o.guard = none) (ty : TypeId) (x y : Operand) (ho : o.op = .store ty x y) (b off : Nat) (t : TypeId) (p m q m' : List Value)
 (hx : a.eval x = .pointer (some ⟨b, off, none⟩)) (hy : a.eval y = .agg m'.toArray) (hp : p.length = off) (hb : Blk w b t (p ++ (m ++ q))) (hl : m'.length = m.length)
 (hi : (P.info? ty).map (·.size) = some m'.length) (h1 : ∀ v ∈ m', v.oneCell' = true)
 (h : ∀ w', Blk w' b t (p ++ (m' ++ q)) -> w.grownBy w' (some b) -> wpList P ops Q rest (a.put o.dst undef) w') : wpList P ops Q (o :: rest) a w := by
 subst hp
 refine wpList_store_mid hg ty x y ho b p.length m'.toArray hx hy (hb.there _ _ (by simp; omega)) (by simpa using hi) (all_oneCell_toArray h1) ?_
 exact h _ (by simpa using Blk.setCells q m' m p w hl hb) (by simpa using grown_setCells b m' p.length w)
theorem st_all (hg : o.guard = none) (ty : TypeId) (x y : Operand) (ho : o.op = .store ty x y) (b : Nat) (t : TypeId) (m m' : List Value)
 (hx : a.eval x = .pointer (some ⟨b, 0, none⟩)) (hy : a.eval y = .agg m'.toArray) (hb : Blk w b t m) (hl : m'.length = m.length)
 (hi : (P.info? ty).map (·.size) = some m'.length) (h1 : ∀ v ∈ m', v.oneCell' = true)
 (h : ∀ w', Blk w' b t m' -> w.grownBy w' (some b) -> wpList P ops Q rest (a.put o.dst undef) w') : wpList P ops Q (o :: rest) a w :=
 st_row hg ty x y ho b 0 t [] m [] m' hx hy rfl (by simpa using hb) hl hi h1 (fun w' h2 h3 => h w' (by simpa using h2) h3)
theorem st_one (hg : o.guard = none) (ty : TypeId) (x y : Operand) (ho : o.op = .store ty x y) (b i : Nat) (t : TypeId) (vs : List Value) (v : Value)
 (hx : a.eval x = .pointer (some ⟨b, i, none⟩)) (hy : a.eval y = v) (hv : v.cells = #[v]) (hv1 : v.oneCell' = true) (hi : i < vs.length) (hb : Blk w b t vs) (hs : (P.info? ty).map (·.size) = some 1)
 (h : ∀ w', Blk w' b t (vs.set i v) -> w.grownBy w' (some b) -> wpList P ops Q rest (a.put o.dst undef) w') : wpList P ops Q (o :: rest) a w := by
 have hst := run_storeCells_cells (P := P) b i [v] 0 w (fun j hj => by
  have : j = 0 := by simpa using hj
  subst this
  rw [Nat.add_zero, hb.cell, List.getElem?_eq_getElem hi]; rfl) (fun j hj => hb.frozen _) (by simp [hv1])
 refine wpList_plain hg fun K hK => ?_
 unfold Oper.wp execOp
 cases hq : P.info? ty with
 | none => simp [hq] at hs
 | some q1 =>
   have hq1 : q1.size = 1 := by simpa [hq] using hs
   simp only [Nat.add_zero] at hst
   have hsv : (storeVar ty ⟨b, i, none⟩ v).run P w = .ok () (w.setCells b i [v]) := by
    simp [storeVar, Go.sizeOf, typeInfo, hq, hv, hq1, hst]
   simp only [ho, hx, hy, Instr.storeAt, Instr.sureAddr, Sem.run_bind, Sem.run_pure, Result.andThen_ok, hsv]
   exact hK _ _ (h _ (hb.set i v) (grown_setCell w _ _))
end
def Fre (w : World) (b : Nat) : Prop := ∀ i, w.frozen? ⟨b, i, none⟩ = false
def NmL (w : World) (na : Option Addr) (ns : List ByteArray) (L : List Nat) : Prop :=
 (ns = [] /\ L = []) ∨ ∃ b o, na = some ⟨b, o, none⟩ /\ L = [b] /\ Fre w b /\ ∀ i x, ns[i]? = some x -> w.cell? ⟨b, o + i, none⟩ = some (.string x)
def Lay (w : World) : Fo -> List Value -> List Nat -> Prop
 | .nil, cs, L => cs = [] /\ L = []
 | .cons h k r, cs, L => ∃ na nc ka kc cs' Ln Lk L2, cs = six h na nc ka k.list.length kc ++ cs' /\ L = Ln ++ Lk ++ L2 /\ NmL w na h.ns Ln /\ Cap na h.ns.length nc /\ Cap ka k.list.length kc /\
    ((k = .nil /\ Lk = []) ∨ ∃ b o ks L', ka = some ⟨b, o, none⟩ /\ Lk = b :: L' /\ Fre w b /\ (∀ j u, ks[j]? = some u -> w.cell? ⟨b, o + j, none⟩ = some u) /\ Lay w k ks L') /\ Lay w r cs' L2
def VlL (w : World) (p : Vt) (na : Option Addr) (nc : Nat) (ka : Option Addr) (kc : Nat) (L : List Nat) : Prop :=
 ∃ Ln Lk, L = Ln ++ Lk /\ NmL w na p.1.ns Ln /\ Cap na p.1.ns.length nc /\ Cap ka p.2.list.length kc /\
   ((p.2 = .nil /\ Lk = []) ∨ ∃ b o ks L', ka = some ⟨b, o, none⟩ /\ Lk = b :: L' /\ Fre w b /\ (∀ j u, ks[j]? = some u -> w.cell? ⟨b, o + j, none⟩ = some u) /\ Lay w p.2 ks L')
theorem cell_keep {w w' : World} {b i : Nat} (h : w'.heap[b]? = w.heap[b]?) : w'.cell? ⟨b, i, none⟩ = w.cell? ⟨b, i, none⟩ := World.cell?_of_block h
theorem Fre.keep {w w' : World} {b : Nat} (h : Fre w b) (hk : w'.heap[b]? = w.heap[b]?) : Fre w' b := fun i => (World.frozen?_of_block (a := ⟨b, i, none⟩) hk).trans (h i)
theorem NmL.keep {w w' : World} {na : Option Addr} {ns : List ByteArray} {L : List Nat} (h : NmL w na ns L) (hk : ∀ x ∈ L, w'.heap[x]? = w.heap[x]?) : NmL w' na ns L := by
 rcases h with h | ⟨b, o, e, rfl, hf, hc⟩
 . exact .inl h
 . have hb := hk b (by simp)
   exact .inr ⟨b, o, e, rfl, hf.keep hb, fun i x hx => (cell_keep hb).trans (hc i x hx)⟩
theorem Lay.keep {w w' : World} (f : Fo) : ∀ {cs : List Value} {L : List Nat}, Lay w f cs L -> (∀ x ∈ L, w'.heap[x]? = w.heap[x]?) -> Lay w' f cs L := by
 induction f with
 | nil => intro cs L h _; exact h
 | cons h k r ihk ihr =>
   rintro cs L ⟨na, nc, ka, kc, cs', Ln, Lk, L2, h1, rfl, h3, h4, h5, h6, h7⟩ hk
   refine ⟨na, nc, ka, kc, cs', Ln, Lk, L2, h1, rfl, h3.keep (fun x hx => hk x (by simp [hx])), h4, h5, ?_, ihr h7 fun x hx => hk x (by simp [hx])⟩
   rcases h6 with h6 | ⟨b, o, ks, L', e, rfl, hf, hc, hl⟩
   . exact .inl h6
   . have hb := hk b (by simp)
     exact .inr ⟨b, o, ks, L', e, rfl, hf.keep hb, fun j u hj => (cell_keep hb).trans (hc j u hj), ihk hl fun x hx => hk x (by simp [hx])⟩
theorem VlL.keep {w w' : World} {p : Vt} {na ka : Option Addr} {nc kc : Nat} {L : List Nat} (h : VlL w p na nc ka kc L) (hk : ∀ x ∈ L, w'.heap[x]? = w.heap[x]?) : VlL w' p na nc ka kc L := by
 obtain ⟨Ln, Lk, rfl, h3, h4, h5, h6⟩ := h
 refine ⟨Ln, Lk, rfl, h3.keep fun x hx => hk x (by simp [hx]), h4, h5, ?_⟩
 rcases h6 with h6 | ⟨b, o, ks, L', e, rfl, hf, hc, hl⟩
 . exact .inl h6
 . have hb := hk b (by simp)
   exact .inr ⟨b, o, ks, L', e, rfl, hf.keep hb, fun j u hj => (cell_keep hb).trans (hc j u hj), Lay.keep _ hl fun x hx => hk x (by simp [hx])⟩
theorem NmL.nms {w : World} {na : Option Addr} {ns : List ByteArray} {L : List Nat} (h : NmL w na ns L) : Nms w na ns := by
 rcases h with h | ⟨b, o, e, _, _, hc⟩
 . exact .inl h.1
 . exact .inr ⟨b, o, e, hc⟩
theorem six_length (h : Hd) (na : Option Addr) (nc : Nat) (ka : Option Addr) (kl kc : Nat) : (six h na nc ka kl kc).length = 6 := rfl
theorem nd_six {w : World} {b o : Nat} {h : Hd} {na ka : Option Addr} {nc kl kc : Nat} (hc : ∀ j u, (six h na nc ka kl kc)[j]? = some u -> w.cell? ⟨b, o + j, none⟩ = some u) : Nd w b o h na nc ka kl kc :=
 ⟨hc 0 _ rfl, hc 1 _ rfl, hc 2 _ rfl, hc 3 _ rfl, hc 4 _ rfl, hc 5 _ rfl⟩
theorem Lay.at {w : World} (f : Fo) : ∀ {cs : List Value} {L : List Nat} {b o : Nat}, Lay w f cs L -> (∀ j u, cs[j]? = some u -> w.cell? ⟨b, o + j, none⟩ = some u) -> At w f b o := by
 induction f with
 | nil => intro _ _ _ _ _ _; trivial
 | cons h k r ihk ihr =>
   rintro cs L b o ⟨na, nc, ka, kc, cs', Ln, Lk, L2, rfl, rfl, h3, h4, h5, h6, h7⟩ hc
   refine ⟨⟨na, nc, ka, kc, nd_six fun j u hj => hc j u ?_, h3.nms, h4, ?_, h5⟩, ihr h7 fun j u hj => ?_⟩
   . rw [List.getElem?_append_left (List.getElem?_eq_some_iff.1 hj).1]; exact hj
   . rcases h6 with h6 | ⟨b', o', ks, L', e, rfl, hf, hc', hl⟩
     . exact .inl h6.1
     . exact .inr ⟨b', o', e, ihk hl hc'⟩
   . rw [Nat.add_assoc]
     refine hc (6 + j) u ?_
     rw [List.getElem?_append_right (by rw [six_length]; omega), six_length, Nat.add_sub_cancel_left]
     exact hj
theorem VlL.vl {w : World} {p : Vt} {na ka : Option Addr} {nc kc : Nat} {L : List Nat} (h : VlL w p na nc ka kc L) : Vl w p na nc ka kc := by
 obtain ⟨Ln, Lk, rfl, h3, h4, h5, h6⟩ := h
 refine ⟨h3.nms, h4, ?_, h5⟩
 rcases h6 with h6 | ⟨b, o, ks, L', e, rfl, hf, hc, hl⟩
 . exact .inl h6.1
 . exact .inr ⟨b, o, e, hl.at _ hc⟩
theorem six_one (h : Hd) (na : Option Addr) (nc : Nat) (ka : Option Addr) (kl kc : Nat) : ∀ u ∈ six h na nc ka kl kc, u.oneCell' = true := by
 intro u hu
 simp only [six, List.mem_cons, List.not_mem_nil, or_false] at hu
 rcases hu with rfl | rfl | rfl | rfl | rfl | rfl <;> rfl
end Go.Proofs.YtpfiejmhnkcjbaaGreatDoor
namespace Go.Proofs.YtpfiejmhnkcjbaaGreatDoor
open Go.RowKit
set_option linter.unusedVariables false
def zer : List Value := [.int .i64 0, .int .i64 0, .int .i64 0, .string ⟨#[]⟩, .slice none 0 0, .slice none 0 0]
theorem len_ws (f : Fo) : f.list.length <= f.ws := by
 induction f with
 | nil => simp [Fo.list]
 | cons h k r _ ihr => simp only [Fo.list, Fo.ws, List.length_cons, wsH]; omega
theorem res_row {P : Program} {w : World} {fn : Func} {p : Tmp} {ty : TypeId} (h : fn.results = #[.cell p ty]) (tmps : Array Value) (g : Nat) (t : TypeId) (cs : List Value) (d : TypeDesc)
 (hp : tmps.getD p undef = .pointer (some ⟨g, 0, none⟩)) (hg : Blk w g t cs) (hu : P.underlying ty = some d) (hd : d.isRow = true) (hi : (P.info? ty).map (·.size) = some cs.length) :
 (results fn tmps).run P w = .ok (.agg cs.toArray) w :=
 results_cell_row h tmps w g t cs.toArray (0, 0) d hp hg hu (by cases d <;> simp_all [TypeDesc.isRow]) (by simpa using hi)
theorem res_two {P : Program} {w : World} {fn : Func} {p q : Tmp} {ty : TypeId} (h : fn.results = #[.cell p ty, .tmp q]) (tmps : Array Value) (g : Nat) (t : TypeId) (cs : List Value) (d : TypeDesc)
 (hp : tmps.getD p undef = .pointer (some ⟨g, 0, none⟩)) (hg : Blk w g t cs) (hu : P.underlying ty = some d) (hd : d.isRow = true) (hi : (P.info? ty).map (·.size) = some cs.length) :
 (results fn tmps).run P w = .ok (.tuple #[.agg cs.toArray, tmps.getD q undef]) w := by
 have hp' : tmps[p]?.getD undef = .pointer (some ⟨g, 0, none⟩) := by simpa using hp
 simp [results, h, hp', asAddr, run_loadVar_row w g t ty cs.toArray (0, 0) d hg hu (by cases d <;> simp_all [TypeDesc.isRow]) (by simpa using hi)]
theorem s25 : (Tryz.prog.info? 41).map (·.size) = some 6 := by kernel_rfl
end Go.Proofs.YtpfiejmhnkcjbaaGreatDoor
namespace Go.Proofs.YtpfiejmhnkcjbaaGreatDoor
open Go.RowKit Math
set_option linter.unusedVariables false
structure Ap (B : Nat) (W w' : World) (v v' : Value) (l' : List Nat) : Prop where
 own : Own w' B v' l'
 gr : W.grownBy w' v.ownBlock
 ob : ∀ b, v'.ownBlock = some b -> v.ownBlock = some b ∨ W.heap.size <= b
theorem Ap.trans {B : Nat} {W w1 w2 : World} {v v1 v2 : Value} {l1 l2 : List Nat} (h : Ap B W w1 v v1 l1) (k : Ap B w1 w2 v1 v2 l2) : Ap B W w2 v v2 l2 := by
 have hs := h.gr.size
 refine ⟨k.own, ⟨k.gr.os.trans h.gr.os, k.gr.tape.trans h.gr.tape, k.gr.output.trans h.gr.output, Nat.le_trans hs k.gr.size, fun i hi hne => ?_⟩, fun b hb => ?_⟩
 . rw [k.gr.block i (Nat.lt_of_lt_of_le hi hs) (fun e => ?_), h.gr.block i hi hne]
   rcases h.ob i e.symm with h1 | h1
   . exact hne h1.symm
   . omega
 . rcases k.ob b hb with h1 | h1
   . exact h.ob b h1
   . exact .inr (Nat.le_trans hs h1)
theorem Ap.refl {B : Nat} {W : World} {v : Value} {l : List Nat} (h : Own W B v l) : Ap B W W v v l := ⟨h, World.grownBy.refl _ _, fun b hb => .inl hb⟩
theorem Ap.after {B : Nat} {W w1 w2 : World} {v v2 : Value} {l2 : List Nat} (g : Below W.heap.size W w1) (k : Ap B w1 w2 v v2 l2) : Ap B W w2 v v2 l2 :=
 ⟨k.own, ⟨k.gr.os.trans g.os, k.gr.tape.trans g.tape, k.gr.output.trans g.output, Nat.le_trans g.size k.gr.size, fun i hi hne => (k.gr.block i (Nat.lt_of_lt_of_le hi g.size) hne).trans (g.block i hi)⟩,
  fun b hb => (k.ob b hb).imp id (fun h => Nat.le_trans g.size h)⟩
theorem Own.below {w w' : World} {B : Nat} {v : Value} {l : List Nat} (h : Own w B v l) (g : Below w.heap.size w w') : Own w' B v l :=
 World.ownsRow.kept (row := none) h ⟨g.os, g.tape, g.output, g.size, fun x hx _ => g.block x hx⟩ (by simpa using Classical.em _)
theorem Ap.below {B C : Nat} {w0 W w' : World} {v v' : Value} {l l' : List Nat} (k : Ap B W w' v v' l') (h : Own W B v l) (hb : Below C w0 W) (hC : C <= W.heap.size) (hCB : C <= B) : Below C w0 w' :=
 hb.grown k.gr hC fun x hx => Nat.le_trans hCB (World.ownsRow.lt h x hx).1
theorem Ap.blk {B : Nat} {W w' : World} {v v' : Value} {l' : List Nat} (k : Ap B W w' v v' l') {b : Nat} {t : TypeId} {vs : List Value} (h : Blk W b t vs) (hne : v.ownBlock ≠ some b) : Blk w' b t vs := h.kept k.gr (fun e => hne e.symm)
theorem Own.ne {w : World} {B : Nat} {v : Value} {l : List Nat} (h : Own w B v l) : v.ownBlock ≠ some w.heap.size := fun e => by
 have := (World.ownsRow.lt h _ e).2
 omega
theorem vals_app (l m : List Nat) : vals (l ++ m) = vals l ++ vals m := by simp [vals]
theorem ap_bytes {ops : Array Oper} {rest : List Oper} {o : Oper} {a : Act} {Q : Exit -> Act -> World -> Prop} {w : World} (hgd : o.guard = none) (s x : Operand)
 (ho : o.op = .call { callee := .builtin .append, args := #[s, x], argTypes := #[34, 34] })
 (base : Nat) (v : Value) (l : List Nat) (hs : a.eval s = v) (hown : Own w base v l)
 (ax : Option Addr) (m c : Nat) (l2 : List Nat) (hm : m = l2.length) (hx : a.eval x = .slice ax m c) (hsrc : Byt w ax l2) (hnil : ax = none -> c = 0)
 (hb : l.length + l2.length <= 1000000000) (hbase : base <= w.heap.size)
 (h : ∀ v' w', Ap base w w' v v' (l ++ l2) -> wpList Tryz.prog ops Q rest (a.put o.dst v') w') : wpList Tryz.prog ops Q (o :: rest) a w := by
 subst hm
 refine wpList_plain hgd fun K hK => ?_
 obtain ⟨i, hi, hz0, hz1, hz2⟩ := info_parts Tryz.info5
 cases ax with
 | none =>
   obtain rfl := hnil rfl
   have hl : l2 = [] := by
    rcases hsrc with h | ⟨_, _, h, _⟩
    . exact h
    . cases h
   subst hl
   have hr := run_append_owned_none (P := Tryz.prog) (w := w) base 34 o.type 5 i 1 Tryz.underlying34 hi v _ _ hown
   unfold Oper.wp execOp
   simp only [ho, resolve, invoke, builtin, Sem.run_bind, Sem.run_pure, Result.andThen_ok, List.map_toArray, List.map_cons, List.map_nil, hs, hx, List.length_nil, hr]
   exact hK _ _ (h v w (by rw [List.append_nil]; exact Ap.refl hown))
 | some ad =>
   obtain ⟨v', w', r1, r2, r3, _, r5⟩ := run_append_own_at (P := Tryz.prog) w base 34 o.type 5 i _ 1 1 Tryz.underlying34 hi hz0 hz1 hz2 rfl (by decide) v _ _ hown ad l2.length c (vals l2) (by simp [vals_length]) (by
    intro j u hj
    have hjl : j < l2.length := by
     have := (List.getElem?_eq_some_iff.1 hj).1
     simpa [vals_length] using this
    rcases hsrc with rfl | ⟨b, off, he, hc⟩
    . simp at hjl
    . obtain rfl := Option.some.inj he
      rw [vals_get l2 j hjl] at hj
      rw [Addr.add_lit, hc j hjl]
      exact hj) (vals_one l2) (by unfold maxLen; omega) (by omega) hbase
   unfold Oper.wp execOp
   simp only [ho, resolve, invoke, builtin, Sem.run_bind, Sem.run_pure, Result.andThen_ok, List.map_toArray, List.map_cons, List.map_nil, hs, hx, r1]
   refine hK _ _ (h v' w' ⟨?_, r3, fun b hb => ?_⟩)
   . unfold Own
     rw [List.length_append, vals_app]
     exact r2
   . rcases r5 with e | e
     . exact .inl (e.symm.trans hb)
     . rw [e] at hb
       exact .inr (by injection hb with hb; omega)
theorem str_vals (s : ByteArray) : Lib.strCells s = vals (bts s) := by
 simp [Lib.strCells, vals, bts]
theorem ap_str {ops : Array Oper} {rest : List Oper} {o : Oper} {a : Act} {Q : Exit -> Act -> World -> Prop} {w : World} (hgd : o.guard = none) (sl x : Operand)
 (ho : o.op = .call { callee := .builtin .append, args := #[sl, x], argTypes := #[34, 9] })
 (base : Nat) (v : Value) (l : List Nat) (hs : a.eval sl = v) (hown : Own w base v l) (s : ByteArray) (hx : a.eval x = .string s)
 (hb : l.length + s.size <= 1000000000) (hbase : base <= w.heap.size)
 (h : ∀ v' w', Ap base w w' v v' (l ++ bts s) -> wpList Tryz.prog ops Q rest (a.put o.dst v') w') : wpList Tryz.prog ops Q (o :: rest) a w := by
 refine wpList_plain hgd fun K hK => ?_
 obtain ⟨i, hi, hz0, hz1, hz2⟩ := info_parts Tryz.info5
 obtain ⟨v', w', r1, r2, r3, r4⟩ := Lib.run_append_own_string (P := Tryz.prog) w base 34 9 o.type 5 i Tryz.underlying34 Tryz.underlying9 hi hz0 hz1 hz2 v _ _ hown s (by unfold maxLen; omega) (by omega) hbase
 have ob : ∀ b, v'.ownBlock = some b -> v.ownBlock = some b ∨ w.heap.size <= b := by
  intro b hvb
  rcases hown.2 with ⟨rfl, hn0⟩ | ⟨g, cap, cur, rfl, hbg, hg, hnc, hcm, hcs, htake⟩
  . by_cases hm : s.size = 0
    . have := r4.2 ⟨rfl, hm⟩
      rw [this] at hvb
      cases hvb
    . have hr := run_append_nil_string (P := Tryz.prog) w 34 9 o.type 5 i (.int .u8 0) Tryz.underlying34 Tryz.underlying9 hi hz0 s (by omega) (by omega) (by rw [hz2]; omega)
      rw [r1] at hr
      injection hr with e1 e2
      rw [e1] at hvb
      simp only [Value.ownBlock, Option.some.injEq] at hvb
      exact .inr (by omega)
  . by_cases hroom : l.length + s.size <= cap
    . have hcs' : cur.size = cap := by simpa using hcs
      have hr := Lib.run_append_room_string (P := Tryz.prog) w 34 9 o.type 5 i Tryz.underlying34 Tryz.underlying9 hi hz1 g l.length cap cur hg s hroom (by omega)
      rw [r1] at hr
      injection hr with e1 e2
      rw [e1] at hvb
      exact .inl hvb
    . have holds : ∀ j u, (vals l)[j]? = some u -> w.cell? ((⟨g, 0, none⟩ : Addr).add j) = some u := World.ownsRow.cells hown (g := g) rfl
      have hr := Lib.run_append_grow_string (P := Tryz.prog) w 34 9 o.type 5 i (.int .u8 0) Tryz.underlying34 Tryz.underlying9 hi hz0 ⟨g, 0, none⟩ l.length cap (vals l) (by rw [hz1, vals_length]; simp) holds s (by omega) (by omega) (by rw [hz2]; exact growslice_fits (by omega) (by omega))
      rw [r1] at hr
      injection hr with e1 e2
      rw [e1] at hvb
      simp only [Value.ownBlock, Option.some.injEq] at hvb
      exact .inr (by omega)
 unfold Oper.wp execOp
 simp only [ho, resolve, invoke, builtin, Sem.run_bind, Sem.run_pure, Result.andThen_ok, List.map_toArray, List.map_cons, List.map_nil, hs, hx, r1]
 refine hK _ _ (h v' w' ⟨?_, r3, ob⟩)
 unfold Own
 rw [List.length_append, bts_len, vals_app, <- str_vals]
 exact r2
theorem Own.byt {w : World} {B : Nat} {v : Value} {l : List Nat} (h : Own w B v l) : ∃ a c, v = .slice a l.length c /\ Byt w a l /\ (a = none -> c = 0) /\ l.length <= c /\ c <= maxLen := by
 have h' := h
 rcases h with ⟨_, ⟨rfl, h0⟩ | ⟨g, cap, cur, rfl, hg, hh, hle, hm, _⟩⟩
 . have : l = [] := List.eq_nil_of_length_eq_zero h0
   subst this
   exact ⟨none, 0, rfl, .inl rfl, fun _ => rfl, Nat.le_refl _, by unfold maxLen; omega⟩
 . refine ⟨_, cap, rfl, .inr ⟨g, 0, rfl, fun i hi => ?_⟩, (fun e => by cases e), hle, hm⟩
   rw [Nat.zero_add, World.ownsRow.cellAt h' i (by omega), vals_get l i hi]
end Go.Proofs.YtpfiejmhnkcjbaaGreatDoor
namespace Go.Proofs.YtpfiejmhnkcjbaaGreatDoor
open Go.RowKit Math
set_option linter.unusedVariables false
theorem zigN (n : Int) (h1 : -9223372036854775808 <= n) (h2 : n < 9223372036854775808) (w : World) :
 Calls Tryz.prog 175 #[.int .i64 n] w fun e w' => e = .returned (.int .u64 ((zigS n).toNat : Int)) /\ w' = w := by
 have := zig_any n h1 (by omega) w
 rw [show zigS n = ((zigS n).toNat : Int) from (Int.toNat_of_nonneg (zig_bd n h1 (by omega)).1).symm] at this
 exact this
theorem zigrN (n : Int) (h1 : -9223372036854775808 <= n) (h2 : n < 9223372036854775808) (w : World) :
 Calls Tryz.prog 147 #[.int .i64 n] w fun e w' => e = .returned (.int .u64 ((zigS n).toNat : Int)) /\ w' = w := by
 have := zigr_any n h1 (by omega) w
 rw [show zigS n = ((zigS n).toNat : Int) from (Int.toNat_of_nonneg (zig_bd n h1 (by omega)).1).symm] at this
 exact this
theorem apUv (v : Value) (l : List Nat) (u : Nat) (hu : u < 18446744073709551616) (B : Nat) (W : World) (ho : Own W B v l) (hB : B <= W.heap.size) (hl : l.length <= 900000000) :
 Calls Tryz.prog 161 #[v, .int .u64 (u : Int)] W fun e w' => ∃ v', e = .returned v' /\ Ap B W w' v v' (l ++ uv u) := by
 have h10 := uv_ten u hu
 have K := fun W => uv_any u hu W
 have HO : Hid (Own W B v l) := ho
 clear ho
 go_enter Tryz.func161, Tryz.ntmps161
 go_wp2_with fail
 refine (K _).mono ?_
 rintro e w1 ⟨r, rfl, o1, b1⟩
 obtain ⟨ax, c, rfl, hby, hnil, _⟩ := o1.byt
 have hs := b1.size
 have HB : Hid (Below W.heap.size W w1) := b1
 have HY : Hid (Byt w1 ax (uv u)) := hby
 clear o1 b1 K hby
 go_wp2_with (at_builtin; go_must (refine ap_bytes rfl (.tmp 5) (.tmp 7) rfl B v l rfl (HO.out.below HB.out) ax _ c (uv u) rfl rfl HY.out hnil (by omega) (by omega) ?_))
 intro v' w2 A
 have HA : Hid (Ap B W w2 v v' (l ++ uv u)) := Ap.after HB.out A
 clear A HB HY HO
 go_wp2
 go_ret
 exact ⟨v', rfl, HA.out⟩
theorem apInt (v : Value) (l : List Nat) (n : Int) (h1 : -9223372036854775808 <= n) (h2 : n < 9223372036854775808) (B : Nat) (W : World) (ho : Own W B v l) (hB : B <= W.heap.size) (hl : l.length <= 900000000) :
 Calls Tryz.prog 160 #[v, .int .i64 n] W fun e w' => ∃ v', e = .returned v' /\ Ap B W w' v v' (l ++ uv (zigS n).toNat) := by
 have z := (zig_nat n h1 h2).1
 have K := fun W => zigN n h1 h2 W
 have K2 := apUv v l (zigS n).toNat z B W ho hB hl
 generalize (zigS n).toNat = u at *
 clear ho
 go_enter Tryz.func160, Tryz.ntmps160
 go_wp2_with fail
 refine (K _).mono ?_
 rintro e w1 ⟨rfl, hw⟩
 have hw' := hw.symm
 subst hw'
 clear hw
 go_wp2_with fail
 refine K2.mono ?_
 rintro e w2 ⟨v', rfl, A⟩
 have HA : Hid (Ap B W w2 v v' (l ++ uv u)) := A
 clear A K K2
 go_wp2
 go_ret
 exact ⟨v', rfl, HA.out⟩
theorem apTx (v : Value) (l : List Nat) (s : ByteArray) (B : Nat) (W : World) (ho : Own W B v l) (hB : B <= W.heap.size) (hl : l.length + s.size <= 800000000) :
 Calls Tryz.prog 162 #[v, .string s] W fun e w' => ∃ v', e = .returned v' /\ Ap B W w' v v' (l ++ txB s) := by
 have K2 := apUv v l s.size (by omega) B W ho hB (by omega)
 have h10 := uv_ten s.size (by omega)
 clear ho
 go_enter Tryz.func162, Tryz.ntmps162
 go_wp2_with fail
 refine K2.mono ?_
 rintro e w1 ⟨v1, rfl, A⟩
 have HA : Hid (Ap B W w1 v v1 (l ++ uv s.size)) := A
 have hs := A.gr.size
 clear A K2
 go_wp2_with (at_builtin; go_must (refine ap_str rfl (.tmp 9) (.tmp 10) rfl B v1 (l ++ uv s.size) rfl HA.out.own s rfl (by rw [List.length_append]; omega) (by omega) ?_))
 intro v2 w2 A2
 have HA2 : Hid (Ap B W w2 v v2 (l ++ txB s)) := by
  exact HA.out.trans A2
 clear A2 HA
 go_wp2
 go_ret
 exact ⟨v2, rfl, HA2.out⟩
end Go.Proofs.YtpfiejmhnkcjbaaGreatDoor
