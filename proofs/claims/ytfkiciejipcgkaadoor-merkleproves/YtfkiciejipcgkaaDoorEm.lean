/-
  Regions that draw their order: a length that is taken first; a call beside a new variable. What the document's Up makes, over lists.
-/
import Derived.Test.YtfkiciejipcgkaaDoorEk
import Derived.Test.YtfkiciejipcgkaaDoorSRnode
namespace Go.Proofs.YtfkiciejipcgkaaDoor
open Go Go.RowKit Sh
section
variable {C : World → Prop} {z : Nat} {Q : Exit → Act → World → Prop}
def firstL (ops : Array Oper) (z : Nat) (listed : Array Bool) (i : Nat) : Bool := lastOn ops z i && ((Region.ready .any ops listed).contains i && Region.free .any ops listed i)
/-- the length of a slice may be taken first. -/
theorem len_first {L : List Oper} {i : Nat} {o : Oper} {n : Nat} {listed : Array Bool} {a : Act} {w : World} (N : Nat) (hn : n = N + 1) (hsel : Region.noSelect L.toArray = true) (hQ : ∀ c (a : Act) (d : Option Tmp) v w, Q (.panic c) (a.put d v) w → Q (.panic c) a w) (hC : C w) (hB : firstL L.toArray z listed i = true) (hi : nth L i = some o) (hw : Region.wanted o (yielded L.toArray a.tmps) = true)
    (x : Operand) (t : TypeId) (ho : o.op = .call { callee := .builtin .len, args := #[x], argTypes := #[t] }) (e : TypeId) (ht : Tryd.prog.underlying t = some (.slice e)) (ad : Option Addr) (k cap : Nat) (hx : a.eval x = .slice ad k cap)
    (h : anyC Tryd.prog L.toArray C z Q N (listed.setIfInBounds i true) (a.put o.dst (.int .i64 (k : Int))) w) : anyC Tryd.prog L.toArray C z Q n listed a w := by
  subst hn
  unfold firstL at hB
  simp only [Bool.and_eq_true] at hB
  have hi' : L.toArray[i]? = some o := by rw [List.getElem?_toArray, ← nth_eq, hi]
  refine anyC_first (v := .int .i64 (k : Int)) hi' (lastOn_spec hB.1) hsel hQ N listed a w hC (Region.free_spec hi' hB.2.2) (by simpa using hB.2.1) (.inl ⟨hw, fun W _ => ?_⟩) h
  unfold execOp
  simp only [ho, resolve, invoke, builtin, Sem.run_bind, Sem.run_pure, Result.andThen_ok, List.map_toArray, List.map_cons, List.map_nil, hx]
  go_simp
end
/-- what Up makes; false: it has not as many as it must. -/
def upF (h : List Nat) : Nat → Nat → Nat → List (List Nat) → List Nat × Bool
  | 0, _, _, L => (h, L.isEmpty)
  | T + 1, i, n, L =>
    if n ≤ 2 ^ T then upF h T i n L
    else match L.getLast? with
      | none => (List.replicate 32 0, false)
      | some q => if i < 2 ^ T then (nd (upF h T i (2 ^ T) L.dropLast).1 q, (upF h T i (2 ^ T) L.dropLast).2) else (nd q (upF h T (i - 2 ^ T) (n - 2 ^ T) L.dropLast).1, (upF h T (i - 2 ^ T) (n - 2 ^ T) L.dropLast).2)
def UpR (h : List Nat) (i n : Nat) (L : List (List Nat)) (x : List Nat) (ok : Bool) : Prop := Hh x ∧ ok = decide (L.length = (Mk.wy 0 i n).length) ∧ (ok = true → x = Mk.fo nd h (Mk.wy 0 i n) L)
theorem UpR.left {h x q : List Nat} {i n T : Nat} {M : List (List Nat)} {ok : Bool} (h1 : 2 ^ T < n) (h2 : n ≤ 2 ^ (T + 1)) (hi : i < 2 ^ T) (u : UpR h i (2 ^ T) M x ok) : UpR h i n (M ++ [q]) (nd x q) ok := by
  have hp : i * 2 ^ 0 < 2 ^ T := by simpa using hi
  obtain ⟨a, b, c⟩ := u
  refine ⟨nd_hh _ _, ?_, fun e => ?_⟩
  · rw [Mk.wy_left h1 h2 (Nat.zero_le _) hp, b, List.length_append, List.length_append]; simp
  · rw [b] at e
    have el := of_decide_eq_true e
    rw [Mk.wy_left h1 h2 (Nat.zero_le _) hp, Mk.fo_app _ _ _ _ _ _ el.symm, if_neg (by show ¬ (1 % 2 = 0); decide), c (by rw [b]; exact e)]
theorem UpR.right {h x q : List Nat} {j n T : Nat} {M : List (List Nat)} {ok : Bool} (h1 : 2 ^ T < n) (h2 : n ≤ 2 ^ (T + 1)) (hj : j < n - 2 ^ T) (u : UpR h j (n - 2 ^ T) M x ok) : UpR h (2 ^ T + j) n (M ++ [q]) (nd q x) ok := by
  have hq : j * 2 ^ 0 < n - 2 ^ T := by simpa using hj
  have hle : n - 2 ^ T ≤ 2 ^ T := by rw [Nat.pow_succ] at h2; omega
  have e0 : Mk.wy 0 (2 ^ T + j) n = (Mk.wy 0 j (n - 2 ^ T)).map (Mk.sh T) ++ [(T, 0)] := Mk.wy_right (lev := 0) h1 h2 (Nat.zero_le _) hq
  obtain ⟨a, b, c⟩ := u
  refine ⟨nd_hh _ _, ?_, fun e => ?_⟩
  · rw [e0, b, List.length_append, List.length_append, List.length_map]; simp
  · rw [b] at e
    have el := of_decide_eq_true e
    have c' := c (by rw [b]; exact e)
    rw [e0, Mk.fo_app _ _ _ _ _ _ (by rw [List.length_map]; exact el.symm), if_pos (by show 0 % 2 = 0; rfl), c']
    by_cases hT : 0 < T
    · rw [Mk.fo_sh nd T _ _ _ (Mk.sh_lt hle hT hq)]
    · have : T = 0 := by omega
      subst this
      rw [Mk.wy_one (by simpa using hle) hq]
      rfl
theorem z_hh : Hh (List.replicate 32 0) := ⟨by simp, by intro x hx; rw [List.eq_of_mem_replicate hx]; decide⟩
theorem upR_nil (h : List Nat) (i n : Nat) (hi : i < n) (h1 : 1 < n) : UpR h i n [] (List.replicate 32 0) false := by
  obtain ⟨T, a, b⟩ := Mk.two_exists n (by omega)
  refine ⟨z_hh, ?_, fun e => by cases e⟩
  symm
  rw [decide_eq_false_iff_not]
  by_cases hc : i < 2 ^ T
  · rw [Mk.wy_left a b (Nat.zero_le _) (by simpa using hc), List.length_append]; simp
  · obtain ⟨j, rfl⟩ := Nat.le.dest (Nat.not_lt.1 hc)
    have e0 : Mk.wy 0 (2 ^ T + j) n = (Mk.wy 0 j (n - 2 ^ T)).map (Mk.sh T) ++ [(T, 0)] := Mk.wy_right (lev := 0) a b (Nat.zero_le _) (by simp; omega)
    rw [e0, List.length_append]; simp
theorem upF_R (h : List Nat) (hh : Hh h) : ∀ (T i n : Nat) (L : List (List Nat)), i < n → n ≤ 2 ^ T → UpR h i n L (upF h T i n L).1 (upF h T i n L).2
  | 0, i, n, L, hi, hn => by
    have e1 : n = 1 := by simp at hn; omega
    have e0 : i = 0 := by omega
    subst e1 e0
    refine ⟨hh, ?_, fun _ => ?_⟩
    · rw [Mk.wy_one (by simp) (by simp)]
      show L.isEmpty = _
      cases L <;> simp
    · rw [Mk.wy_one (by simp) (by simp)]; cases L <;> rfl
  | T + 1, i, n, L, hi, hn => by
    rw [upF]
    by_cases hs : n ≤ 2 ^ T
    · rw [if_pos hs]; exact upF_R h hh T i n L hi hs
    · have hp := Mk.pow_pos2 T
      rw [if_neg hs]
      rcases List.eq_nil_or_concat L with rfl | ⟨M, q, rfl⟩
      · exact upR_nil h i n hi (by omega)
      · rw [List.concat_eq_append, List.getLast?_concat, List.dropLast_concat]
        simp only
        by_cases hc : i < 2 ^ T
        · rw [if_pos hc]
          exact (upF_R h hh T i (2 ^ T) M hc (Nat.le_refl _)).left (by omega) hn hc
        · rw [if_neg hc]
          obtain ⟨j, rfl⟩ := Nat.le.dest (Nat.not_lt.1 hc)
          rw [Nat.add_sub_cancel_left]
          rw [Nat.pow_succ] at hn
          exact (upF_R h hh T j (n - 2 ^ T) M (by omega) (by omega)).right (by omega) (by rw [Nat.pow_succ]; omega) (by omega)
end Go.Proofs.YtfkiciejipcgkaaDoor
