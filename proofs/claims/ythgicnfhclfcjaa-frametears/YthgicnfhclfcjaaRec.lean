/-
  Records as plain lists: the record of bytes, the record at the beginning of bytes, all records from the beginning on; what was written is read as it was, a record that is cut short is short, one of which a byte is another one is refused.
-/
import Derived.Test.YthgicnfhclfcjaaBg
namespace Go.Proofs.Ythgicnfhclfcjaa
open Go.RowKit Math
/-- The check sum. -/
def sm (l : List Nat) : Nat := 4294967295 - crcT 4294967295 l
theorem sm_lt (l : List Nat) : sm l < 4294967296 := by unfold sm; omega
theorem sm_eq (l : List Nat) : 4294967295 - crcB 4294967295 l = sm l := by unfold sm; rw [crc_eq]
theorem oct_app {l m : List Nat} (h : Oct l) (h' : Oct m) : Oct (l ++ m) := fun x hx => by
  rcases List.mem_append.1 hx with h1 | h1
  · exact h x h1
  · exact h' x h1
theorem oct_set {l : List Nat} (hb : Oct l) (j z : Nat) (hz : z < 256) : Oct (l.set j z) := fun x hx => by
  rcases List.mem_or_eq_of_mem_set hx with h | h
  · exact hb x h
  · omega
/-- The head of a record of so many bytes. -/
def hd (n : Nat) : List Nat := hf n 4 ++ hf (sm (hf n 4)) 4
theorem hd_length (n : Nat) : (hd n).length = 8 := by simp [hd, hf_length]
theorem hd_oct (n : Nat) : Oct (hd n) := oct_app (hf_oct _ _) (hf_oct _ _)
/-- The record of bytes. -/
def rcd (p : List Nat) : List Nat := (hd p.length ++ p) ++ hf (sm (hd p.length ++ p)) 4
theorem rcd_length (p : List Nat) : (rcd p).length = p.length + 12 := by simp [rcd, hd_length, hf_length]; omega
theorem rcd_oct {p : List Nat} (h : Oct p) : Oct (rcd p) := oct_app (oct_app (hd_oct _) h) (hf_oct _ _)
/-- The record at the beginning of bytes: what it holds, how many bytes it has, the error. -/
def dec (l : List Nat) : List Nat × Nat × Nat :=
  if l.length < 8 then ([], 0, 2) else
  if num ((l.drop 4).take 4) ≠ sm (l.take 4) then ([], 0, 4) else
  if 524288 < num (l.take 4) then ([], 0, 5) else
  if l.length < num (l.take 4) + 12 then ([], 0, 2) else
  if num ((l.drop (8 + num (l.take 4))).take 4) ≠ sm (l.take (8 + num (l.take 4))) then ([], 0, 4) else
  ((l.drop 8).take (num (l.take 4)), num (l.take 4) + 12, 0)
theorem dec_e1 {l : List Nat} (h : l.length < 8) : dec l = ([], 0, 2) := by unfold dec; rw [if_pos h]
theorem dec_e2 {l : List Nat} (h : ¬ l.length < 8) (h2 : num ((l.drop 4).take 4) ≠ sm (l.take 4)) : dec l = ([], 0, 4) := by unfold dec; rw [if_neg h, if_pos h2]
theorem dec_e3 {l : List Nat} (h : ¬ l.length < 8) (h2 : num ((l.drop 4).take 4) = sm (l.take 4)) (h3 : 524288 < num (l.take 4)) : dec l = ([], 0, 5) := by unfold dec; rw [if_neg h, if_neg (by simpa using h2), if_pos h3]
theorem dec_e4 {l : List Nat} (h : ¬ l.length < 8) (h2 : num ((l.drop 4).take 4) = sm (l.take 4)) (h3 : ¬ 524288 < num (l.take 4)) (h4 : l.length < num (l.take 4) + 12) : dec l = ([], 0, 2) := by
  unfold dec; rw [if_neg h, if_neg (by simpa using h2), if_neg h3, if_pos h4]
theorem dec_e5 {l : List Nat} (h : ¬ l.length < 8) (h2 : num ((l.drop 4).take 4) = sm (l.take 4)) (h3 : ¬ 524288 < num (l.take 4)) (h4 : ¬ l.length < num (l.take 4) + 12)
    (h5 : num ((l.drop (8 + num (l.take 4))).take 4) ≠ sm (l.take (8 + num (l.take 4)))) : dec l = ([], 0, 4) := by
  unfold dec; rw [if_neg h, if_neg (by simpa using h2), if_neg h3, if_neg h4, if_pos h5]
theorem dec_ok {l : List Nat} (h : ¬ l.length < 8) (h2 : num ((l.drop 4).take 4) = sm (l.take 4)) (h3 : ¬ 524288 < num (l.take 4)) (h4 : ¬ l.length < num (l.take 4) + 12)
    (h5 : num ((l.drop (8 + num (l.take 4))).take 4) = sm (l.take (8 + num (l.take 4)))) : dec l = ((l.drop 8).take (num (l.take 4)), num (l.take 4) + 12, 0) := by
  unfold dec; rw [if_neg h, if_neg (by simpa using h2), if_neg h3, if_neg h4, if_neg (by simpa using h5)]
theorem dec_cases (l : List Nat) : (∃ e, dec l = ([], 0, e) ∧ (e = 2 ∨ e = 4 ∨ e = 5)) ∨ ∃ n, n + 12 ≤ l.length ∧ n ≤ 524288 ∧ dec l = ((l.drop 8).take n, n + 12, 0) := by
  by_cases h : l.length < 8
  · exact .inl ⟨2, dec_e1 h, by simp⟩
  by_cases h2 : num ((l.drop 4).take 4) = sm (l.take 4)
  case neg => exact .inl ⟨4, dec_e2 h h2, by simp⟩
  by_cases h3 : 524288 < num (l.take 4)
  · exact .inl ⟨5, dec_e3 h h2 h3, by simp⟩
  by_cases h4 : l.length < num (l.take 4) + 12
  · exact .inl ⟨2, dec_e4 h h2 h3 h4, by simp⟩
  by_cases h5 : num ((l.drop (8 + num (l.take 4))).take 4) = sm (l.take (8 + num (l.take 4)))
  case neg => exact .inl ⟨4, dec_e5 h h2 h3 h4 h5, by simp⟩
  exact .inr ⟨_, by omega, by omega, dec_ok h h2 h3 h4 h5⟩
theorem dec_oct {l : List Nat} (h : Oct l) : Oct (dec l).1 := by
  rcases dec_cases l with ⟨e, he, _⟩ | ⟨n, _, _, he⟩
  · rw [he]; intro x hx; cases hx
  · rw [he]; exact oct_take (oct_drop h 8) _
theorem dec_len (l : List Nat) : (dec l).1.length ≤ l.length := by
  rcases dec_cases l with ⟨e, he, _⟩ | ⟨n, _, _, he⟩
  · rw [he]; simp
  · rw [he]; simp; omega
theorem num_nil : num [] = 0 := rfl
theorem num_inj4 {l m : List Nat} (hl : l.length = 4) (hm : m.length = 4) (ol : Oct l) (om : Oct m) (h : num l = num m) : l = m := by
  match l, m, hl, hm with
  | [a, b, c, d], [a', b', c', d'], _, _ =>
    have h1 := ol a (by simp); have h2 := ol b (by simp); have h3 := ol c (by simp); have h4 := ol d (by simp)
    have k1 := om a' (by simp); have k2 := om b' (by simp); have k3 := om c' (by simp); have k4 := om d' (by simp)
    simp only [num, List.foldl_cons, List.foldl_nil] at h
    have e1 : a = a' := by omega
    have e2 : b = b' := by omega
    have e3 : c = c' := by omega
    have e4 : d = d' := by omega
    rw [e1, e2, e3, e4]
theorem num_lt4 {l : List Nat} (h : l.length = 4) (ho : Oct l) : num l < 4294967296 := by
  have := num_lt l ho
  rw [h] at this
  exact this
theorem hf_num {l : List Nat} (h : l.length = 4) (ho : Oct l) : hf (num l) 4 = l :=
  num_inj4 (hf_length _ _) h (hf_oct _ _) ho (num_four _ (num_lt4 h ho))
theorem take_app {l m : List Nat} {n : Nat} (h : l.length = n) : (l ++ m).take n = l := by subst h; simp
theorem drop_app {l m : List Nat} {n : Nat} (h : l.length = n) : (l ++ m).drop n = m := by subst h; simp
/-- The parts of four, four, so many, four bytes and more, read. -/
theorem dec_parts (A B p C more : List Nat) (hA : A.length = 4) (hB : B.length = 4) (hC : C.length = 4) :
    let l := ((A ++ B) ++ p) ++ C ++ more
    l.take 4 = A ∧ (l.drop 4).take 4 = B ∧ (l.drop 8).take p.length = p ∧ (l.drop (8 + p.length)).take 4 = C ∧ l.take (8 + p.length) = (A ++ B) ++ p := by
  intro l
  have e1 : l = A ++ (B ++ (p ++ (C ++ more))) := by simp [l]
  have e2 : l = (A ++ B) ++ (p ++ (C ++ more)) := by simp [l]
  have e3 : l = ((A ++ B) ++ p) ++ (C ++ more) := by simp [l]
  refine ⟨by rw [e1]; exact take_app hA, by rw [e1, drop_app hA]; exact take_app hB, by rw [e2, drop_app (by simp; omega)]; exact take_app rfl, by rw [e3, drop_app (by simp; omega)]; exact take_app hC, by rw [e3]; exact take_app (by simp; omega)⟩
theorem dec_rcd (p more : List Nat) (hp : p.length ≤ 524288) : dec (rcd p ++ more) = (p, p.length + 12, 0) := by
  obtain ⟨h1, h2, h3, h4, h5⟩ := dec_parts (hf p.length 4) (hf (sm (hf p.length 4)) 4) p (hf (sm (hd p.length ++ p)) 4) more (hf_length _ _) (hf_length _ _) (hf_length _ _)
  have e : ((hf p.length 4 ++ hf (sm (hf p.length 4)) 4) ++ p) ++ hf (sm (hd p.length ++ p)) 4 ++ more = rcd p ++ more := rfl
  rw [e] at h1 h2 h3 h4 h5
  have n4 : num ((rcd p ++ more).take 4) = p.length := by rw [h1]; exact num_four _ (by omega)
  have hl : (rcd p ++ more).length = p.length + 12 + more.length := by simp [rcd_length]
  have := dec_ok (l := rcd p ++ more) (by omega) (by rw [h1, h2]; exact num_four _ (sm_lt _)) (by omega) (by omega) (by rw [n4, h4, h5]; exact num_four _ (sm_lt _))
  rw [this, n4, h3]
theorem dec_cut (p : List Nat) (k : Nat) (hp : p.length ≤ 524288) (hk : k < p.length + 12) : dec ((rcd p).take k) = ([], 0, 2) := by
  have hl : ((rcd p).take k).length = k := by rw [List.length_take, rcd_length]; omega
  by_cases h8 : k < 8
  · exact dec_e1 (by omega)
  obtain ⟨h1, h2, h3, h4, h5⟩ := dec_parts (hf p.length 4) (hf (sm (hf p.length 4)) 4) p (hf (sm (hd p.length ++ p)) 4) [] (hf_length _ _) (hf_length _ _) (hf_length _ _)
  have e : ((hf p.length 4 ++ hf (sm (hf p.length 4)) 4) ++ p) ++ hf (sm (hd p.length ++ p)) 4 ++ [] = rcd p := by rw [List.append_nil]; rfl
  rw [e] at h1 h2 h3 h4 h5
  have t1 : ((rcd p).take k).take 4 = (rcd p).take 4 := by rw [List.take_take, Nat.min_eq_left (by omega)]
  have t2 : (((rcd p).take k).drop 4).take 4 = ((rcd p).drop 4).take 4 := by rw [List.drop_take, List.take_take, Nat.min_eq_left (by omega)]
  have n4 : num (((rcd p).take k).take 4) = p.length := by rw [t1, h1]; exact num_four _ (by omega)
  exact dec_e4 (by omega) (by rw [t1, t2, h1, h2]; exact num_four _ (sm_lt _)) (by omega) (by omega)
theorem sees (l : List Nat) (j z : Nat) (hj : j < l.length) (hb : Oct l) (hz : z < 256) (hne : z ≠ l.getD j 0) : sm l ≠ sm (l.set j z) := by
  unfold sm
  have e1 : l = l.take j ++ l.getD j 0 :: l.drop (j + 1) := by rw [← drop_get l j hj, List.take_append_drop]
  have e2 : l.set j z = l.take j ++ z :: l.drop (j + 1) := by
    rw [List.set_eq_take_append_cons_drop, if_pos hj]
  have h1 : ∀ x ∈ l.take j, x < 256 := fun x hx => hb x (List.mem_of_mem_take hx)
  have h2 : ∀ x ∈ l.drop (j + 1), x < 256 := fun x hx => hb x (List.mem_of_mem_drop hx)
  have h3 := crcB_sees 4294967295 (l.take j) (l.drop (j + 1)) (l.getD j 0) z (by decide) h1 h2 (oct_get hb j) hz (Ne.symm hne)
  rw [← e1, ← e2] at h3
  have h4 := crcB_lt 4294967295 l (by decide) hb
  have h5 := crcB_lt 4294967295 (l.set j z) (by decide) (oct_set hb j z hz)
  rw [crc_eq, crc_eq]
  omega
theorem set_ne {l : List Nat} {j z : Nat} (hj : j < l.length) (hne : z ≠ l.getD j 0) : l.set j z ≠ l := by
  intro h
  have h2 : (l.set j z)[j]'(by simpa using hj) = l[j] := by simp only [h]
  rw [List.getElem_set_self] at h2
  apply hne
  rw [h2, List.getD_eq_getElem?_getD, List.getElem?_eq_getElem hj]; rfl
theorem getD_left {l m : List Nat} {j : Nat} (h : j < l.length) : (l ++ m).getD j 0 = l.getD j 0 := by
  rw [List.getD_eq_getElem?_getD, List.getD_eq_getElem?_getD, List.getElem?_append_left h]
theorem getD_right {l m : List Nat} {j : Nat} (h : l.length ≤ j) : (l ++ m).getD j 0 = m.getD (j - l.length) 0 := by
  rw [List.getD_eq_getElem?_getD, List.getD_eq_getElem?_getD, List.getElem?_append_right h]
/-- A record of which one byte is another one is refused. -/
theorem dec_sees (p more : List Nat) (j z : Nat) (hp : p.length ≤ 524288) (ho : Oct p) (hj : j < (rcd p).length) (hz : z < 256) (hne : z ≠ (rcd p).getD j 0) : dec ((rcd p).set j z ++ more) = ([], 0, 4) := by
  have hlen : ((rcd p).set j z ++ more).length = p.length + 12 + more.length := by simp [rcd_length]
  rw [rcd_length] at hj
  have hr : rcd p = ((hf p.length 4 ++ hf (sm (hf p.length 4)) 4) ++ p) ++ hf (sm (hd p.length ++ p)) 4 := rfl
  have oA := hf_oct p.length 4
  have lA := hf_length p.length 4
  have oB := hf_oct (sm (hf p.length 4)) 4
  have lB := hf_length (sm (hf p.length 4)) 4
  have oC := hf_oct (sm (hd p.length ++ p)) 4
  have lC := hf_length (sm (hd p.length ++ p)) 4
  have nA : num (hf p.length 4) = p.length := num_four _ (by omega)
  have nB : num (hf (sm (hf p.length 4)) 4) = sm (hf p.length 4) := num_four _ (sm_lt _)
  have nC : num (hf (sm (hd p.length ++ p)) 4) = sm (hd p.length ++ p) := num_four _ (sm_lt _)
  have hH : hd p.length = hf p.length 4 ++ hf (sm (hf p.length 4)) 4 := rfl
  rw [hH] at hr oC lC nC
  generalize hf p.length 4 = A at *
  generalize hf (sm A) 4 = B at *
  generalize hf (sm (A ++ B ++ p)) 4 = C at *
  rw [hr] at hne hlen ⊢
  by_cases j4 : j < 4
  · have e : (A ++ B ++ p ++ C).set j z = A.set j z ++ B ++ p ++ C := by
      rw [List.set_append_left _ _ (by simp; omega), List.set_append_left _ _ (by simp; omega), List.set_append_left _ _ (by omega)]
    rw [e] at hlen ⊢
    obtain ⟨h1, h2, h3, h4, h5⟩ := dec_parts (A.set j z) B p C more (by simpa using lA) lB lC
    refine dec_e2 (by omega) ?_
    rw [h1, h2, nB]
    refine sees A j z (by omega) oA hz ?_
    rw [getD_left (by simp; omega), getD_left (by simp; omega), getD_left (by omega)] at hne
    exact hne
  by_cases j8 : j < 8
  · have e : (A ++ B ++ p ++ C).set j z = A ++ B.set (j - 4) z ++ p ++ C := by
      rw [List.set_append_left _ _ (by simp; omega), List.set_append_left _ _ (by simp; omega), List.set_append_right _ _ (by omega), lA]
    rw [e] at hlen ⊢
    obtain ⟨h1, h2, h3, h4, h5⟩ := dec_parts A (B.set (j - 4) z) p C more lA (by simpa using lB) lC
    refine dec_e2 (by omega) ?_
    rw [h1, h2, ← nB]
    intro h
    rw [getD_left (by simp; omega), getD_left (by simp; omega), getD_right (by omega), lA] at hne
    exact set_ne (by omega) hne (num_inj4 (by simpa using lB) lB (oct_set oB _ _ hz) oB h)
  by_cases jp : j < 8 + p.length
  · have e : (A ++ B ++ p ++ C).set j z = A ++ B ++ p.set (j - 8) z ++ C := by
      rw [List.set_append_left _ _ (by simp; omega), List.set_append_right _ _ (by simp; omega)]
      simp [lA, lB]
    rw [e] at hlen ⊢
    obtain ⟨h1, h2, h3, h4, h5⟩ := dec_parts A B (p.set (j - 8) z) C more lA lB lC
    rw [List.length_set] at h3 h4 h5
    have n4 := nA
    rw [← h1] at n4
    refine dec_e5 (by omega) (by rw [h1, h2]; exact nB) (by omega) (by omega) ?_
    rw [n4, h4, h5, nC]
    have e2 : A ++ B ++ p.set (j - 8) z = (A ++ B ++ p).set j z := by rw [List.set_append_right _ _ (by simp; omega)]; simp [lA, lB]
    rw [e2]
    refine sees _ j z (by simp; omega) (oct_app (oct_app oA oB) ho) hz ?_
    rw [getD_left (by simp; omega)] at hne
    exact hne
  · have e : (A ++ B ++ p ++ C).set j z = A ++ B ++ p ++ C.set (j - (8 + p.length)) z := by
      rw [List.set_append_right _ _ (by simp; omega)]
      simp [lA, lB]
      rw [show 4 + (4 + p.length) = 8 + p.length by omega]
    rw [e] at hlen ⊢
    obtain ⟨h1, h2, h3, h4, h5⟩ := dec_parts A B p (C.set (j - (8 + p.length)) z) more lA lB (by simpa using lC)
    have n4 := nA
    rw [← h1] at n4
    refine dec_e5 (by omega) (by rw [h1, h2]; exact nB) (by omega) (by omega) ?_
    rw [n4, h4, h5, ← nC]
    intro h
    rw [getD_right (by simp; omega)] at hne
    have e3 : (A ++ B ++ p).length = 8 + p.length := by simp; omega
    rw [e3] at hne
    exact set_ne (by omega) hne (num_inj4 (by simpa using lC) lC (oct_set oC _ _ hz) oC h)
/-- All records from the beginning on: what they hold, how many bytes they have, the error. -/
def scanF : Nat → List Nat → List (List Nat) × Nat × Nat
  | 0, _ => ([], 0, 0)
  | f + 1, l => if l.length = 0 then ([], 0, 0) else if (dec l).2.2 = 0 then ((dec l).1 :: (scanF f (l.drop (dec l).2.1)).1, (dec l).2.1 + (scanF f (l.drop (dec l).2.1)).2.1, (scanF f (l.drop (dec l).2.1)).2.2) else ([], 0, (dec l).2.2)
theorem dec_pos {l : List Nat} (h : (dec l).2.2 = 0) : 12 ≤ (dec l).2.1 ∧ (dec l).2.1 ≤ l.length := by
  rcases dec_cases l with ⟨e, he, h2⟩ | ⟨n, h1, h2, he⟩
  · rw [he] at h; simp at h; omega
  · rw [he]; simp; omega
theorem scanF_eq : ∀ (f g : Nat) (l : List Nat), l.length ≤ f → l.length ≤ g → scanF f l = scanF g l
  | 0, 0, _, _, _ => rfl
  | 0, g + 1, l, h, _ => by simp [scanF, show l.length = 0 by omega]
  | f + 1, 0, l, _, h => by simp [scanF, show l.length = 0 by omega]
  | f + 1, g + 1, l, h, h' => by
    simp only [scanF]
    by_cases hl : l.length = 0
    · rw [if_pos hl, if_pos hl]
    rw [if_neg hl, if_neg hl]
    by_cases hd : (dec l).2.2 = 0
    · have := dec_pos hd
      rw [if_pos hd, if_pos hd, scanF_eq f g (l.drop (dec l).2.1) (by simp; omega) (by simp; omega)]
    · rw [if_neg hd, if_neg hd]
def scan (l : List Nat) : List (List Nat) × Nat × Nat := scanF l.length l
theorem scan_nil {l : List Nat} (h : l.length = 0) : scan l = ([], 0, 0) := by
  unfold scan; rw [h]; rfl
theorem scan_err {l : List Nat} (h : ¬ l.length = 0) (hd : ¬ (dec l).2.2 = 0) : scan l = ([], 0, (dec l).2.2) := by
  unfold scan
  obtain ⟨n, hn⟩ := Nat.exists_eq_succ_of_ne_zero h
  rw [hn, scanF, if_neg h, if_neg hd]
theorem scan_ok {l : List Nat} (h : ¬ l.length = 0) (hd : (dec l).2.2 = 0) : scan l = ((dec l).1 :: (scan (l.drop (dec l).2.1)).1, (dec l).2.1 + (scan (l.drop (dec l).2.1)).2.1, (scan (l.drop (dec l).2.1)).2.2) := by
  have hp := dec_pos hd
  have e : scanF (l.length - 1) (l.drop (dec l).2.1) = scan (l.drop (dec l).2.1) := scanF_eq _ _ _ (by simp; omega) (by simp)
  rw [← e]
  unfold scan
  obtain ⟨n, hn⟩ := Nat.exists_eq_succ_of_ne_zero h
  rw [hn, Nat.succ_sub_one, scanF, if_neg h, if_pos hd]
/-- Records one behind the other. -/
def rcds (ps : List (List Nat)) : List Nat := (ps.map rcd).flatten
theorem rcds_cons (p : List Nat) (ps : List (List Nat)) : rcds (p :: ps) = rcd p ++ rcds ps := by simp [rcds]
theorem rcds_snoc (p : List Nat) (ps : List (List Nat)) : rcds (ps ++ [p]) = rcds ps ++ rcd p := by simp [rcds]
theorem scan_rcds (ps : List (List Nat)) (more : List Nat) (h : ∀ p ∈ ps, p.length ≤ 524288) :
    scan (rcds ps ++ more) = (ps ++ (scan more).1, (rcds ps).length + (scan more).2.1, (scan more).2.2) := by
  induction ps with
  | nil => simp [rcds]
  | cons p ps ih =>
    have hd := dec_rcd p (rcds ps ++ more) (h p (by simp))
    rw [rcds_cons, List.append_assoc]
    have hl : ¬ (rcd p ++ (rcds ps ++ more)).length = 0 := by simp [rcd_length]
    rw [scan_ok hl (by rw [hd]), hd]
    have e : (rcd p ++ (rcds ps ++ more)).drop (p.length + 12) = rcds ps ++ more := drop_app (rcd_length p)
    simp only [e, ih (fun q hq => h q (by simp [hq]))]
    simp [rcd_length]
    omega
/-- Records that are cut short: the whole ones are told. -/
theorem scan_cut (p : List Nat) (k : Nat) (hp : p.length ≤ 524288) (h0 : 0 < k) (hk : k < p.length + 12) : scan ((rcd p).take k) = ([], 0, 2) := by
  have hd := dec_cut p k hp hk
  have hl : ¬ ((rcd p).take k).length = 0 := by rw [List.length_take, rcd_length]; omega
  rw [scan_err hl (by rw [hd]; decide), hd]
theorem scan_tears (ps : List (List Nat)) (p : List Nat) (qs : List (List Nat)) (k : Nat) (h : ∀ q ∈ ps ++ p :: qs, q.length ≤ 524288) (h1 : (rcds ps).length ≤ k) (h2 : k < (rcds ps).length + (rcd p).length) :
    scan ((rcds (ps ++ p :: qs)).take k) = (ps, (rcds ps).length, if k = (rcds ps).length then 0 else 2) := by
  have e : (rcds (ps ++ p :: qs)).take k = rcds ps ++ (rcd p).take (k - (rcds ps).length) := by
    have e1 : rcds (ps ++ p :: qs) = rcds ps ++ (rcd p ++ rcds qs) := by simp [rcds]
    rw [e1, List.take_append, List.take_of_length_le h1, List.take_append_of_le_length (by omega)]
  rw [rcd_length] at h2
  rw [e, scan_rcds ps _ (fun q hq => h q (by simp [hq]))]
  by_cases hk : k = (rcds ps).length
  · rw [if_pos hk, scan_nil (by simp; omega)]; simp
  · rw [if_neg hk, scan_cut p _ (h p (by simp)) (by omega) (by omega)]; simp
#print axioms dec_sees
#print axioms scan_tears
end Go.Proofs.Ythgicnfhclfcjaa
