/-
  Trees as wholes: Get, Delete, Put; how deep, how many nodes; shaped.
-/
import Derived.Test.YteokjfpppmnebaaPn
import Derived.Test.YteokjfpppmnebaaNi
namespace Go.Proofs.Yteokjfpppmnebaa
open Go.RowKit
set_option linter.unusedVariables false
set_option linter.unusedSimpArgs false
/-! ### how deep, how many -/
theorem sum_ge {α : Type} (f h : α → Nat) (c : Nat) : ∀ (ks : List α), (∀ k ∈ ks, f k + c ≤ h k) → (ks.map f).sum + ks.length * c ≤ (ks.map h).sum
  | [], _ => by simp
  | k :: r, hk => by
    have h1 := sum_ge f h c r (fun x hx => hk x (by simp [hx]))
    have h2 := hk k (by simp)
    simp only [List.map_cons, List.sum_cons, List.length_cons, Nat.add_mul, Nat.one_mul]
    omega
theorem flat_sum {α : Type} (f : α → List E) : ∀ ks : List α, (ks.flatMap f).length = (ks.map fun k => (f k).length).sum
  | [] => rfl
  | k :: r => by simp [flat_sum f r]
theorem deep_le : ∀ (l : Nat) (t : B), Fit l t → (if l = 0 then 1 ≤ t.cnt else 2 ≤ t.cnt) → 2 ^ l ≤ (ents l t).length
  | 0, .lf b es, _, h => by simpa [B.cnt, B.ss, ents] using h
  | 0, .nd b ks, h, _ => h.elim
  | l + 1, .lf b es, h, _ => h.elim
  | l + 1, .nd b ks, hf, h => by
    have hk : 2 ≤ ks.length := by simpa [B.cnt, B.ss] using h
    have h1 := sum_ge (fun _ => 0) (fun p : KB => (ents l p.2).length) (2 ^ l) ks (fun p hp => by
      have hp := hf p hp
      have := deep_le l p.2 hp.1 (by have := hp.2.1; split <;> omega)
      omega)
    have e : (ents (l + 1) (.nd b ks)).length = (ks.map fun p : KB => (ents l p.2).length).sum := flat_sum (fun p : KB => ents l p.2) ks
    rw [e]
    have h2 : 2 * 2 ^ l ≤ ks.length * 2 ^ l := Nat.mul_le_mul_right _ hk
    rw [Nat.pow_succ]
    omega
theorem nods_le4 : ∀ (l : Nat) (t : B), Fit l t → (if l = 0 then 8 ≤ t.cnt else 2 ≤ t.cnt) → 4 * nods l t + 4 ≤ (ents l t).length
  | 0, .lf b es, _, h => by simpa [B.cnt, B.ss, ents, nods] using h
  | 0, .nd b ks, h, _ => h.elim
  | l + 1, .lf b es, h, _ => h.elim
  | l + 1, .nd b ks, hf, h => by
    have hk : 2 ≤ ks.length := by simpa [B.cnt, B.ss] using h
    have h1 := sum_ge (fun p : KB => 4 * nods l p.2) (fun p : KB => (ents l p.2).length) 4 ks (fun p hp => by
      have hp := hf p hp
      exact nods_le4 l p.2 hp.1 (by have := hp.2.1; split <;> omega))
    have e : (ents (l + 1) (.nd b ks)).length = (ks.map fun p : KB => (ents l p.2).length).sum := flat_sum (fun p : KB => ents l p.2) ks
    have e2 : (ks.map fun p : KB => 4 * nods l p.2).sum = 4 * (ks.map fun p : KB => nods l p.2).sum := by
      clear h1 e hk h hf
      induction ks with
      | nil => rfl
      | cons k r ih => simp only [List.map_cons, List.sum_cons, ih]; omega
    have e3 : nods (l + 1) (.nd b ks) = 1 + (ks.map fun p : KB => nods l p.2).sum := rfl
    rw [e, e3]
    omega
theorem nods_le {l : Nat} {t : B} (hf : Fit l t) (h : if l = 0 then 1 ≤ t.cnt else 2 ≤ t.cnt) : nods l t ≤ (ents l t).length := by
  cases l with
  | zero =>
    cases t with
    | lf b es => simpa [B.cnt, B.ss, ents, nods] using h
    | nd b ks => exact hf.elim
  | succ l =>
    have := nods_le4 (l + 1) t hf (by simpa using h)
    omega
theorem nods_pos : ∀ (l : Nat) (t : B), 1 ≤ nods l t
  | 0, _ => Nat.le_refl _
  | _ + 1, .lf _ _ => Nat.le_refl _
  | _ + 1, .nd _ _ => by simp [nods]
/-! ### a tree that the call made -/
structure StO (N : Nat) (w0 W : World) (g : Nat) (T : Option (Nat × B)) : Prop where
  tm : TreeO W g T
  fp : ∀ y ∈ fpO T, N ≤ y
  hg : N ≤ g
  bl : Below N w0 W
  hn : N ≤ w0.heap.size
theorem StO.below {N : Nat} {w0 W W' : World} {g : Nat} {T : Option (Nat × B)} (h : StO N w0 W g T) (b : Below W.heap.size W W') : StO N w0 W' g T := by
  refine ⟨?_, h.fp, h.hg, below_tr h.bl b h.hn, h.hn⟩
  cases T with
  | none => exact Blk.below h.tm b (Blk.lt h.tm)
  | some x => exact TreeM.upd h.tm (Upd.of_below [] b) (by simp) (by simp)
theorem StO.step {N : Nat} {w0 W W' : World} {g l : Nat} {t : B} {T' : Option (Nat × B)} (h : StO N w0 W g (some (l, t))) (tm : TreeO W' g T') (hfp : ∀ y ∈ fpO T', y ∈ fps l t ∨ W.heap.size ≤ y) (u : Upd (g :: fps l t) W W') : StO N w0 W' g T' :=
  ⟨tm, fun y hy => (hfp y hy).elim (fun q => h.fp y q) (fun q => Nat.le_trans (Nat.le_trans h.hn h.bl.size) q), h.hg, Upd.below h.bl u h.hn (fun x hx => by
    rcases List.mem_cons.1 hx with rfl | hx
    · exact h.hg
    · exact h.fp x hx), h.hn⟩
theorem TreeM.bounds {w : World} {g l : Nat} {t : B} (h : TreeM w g l t) (hn : (ents l t).length < 100000000) : nods l t + l + 2 < 1000000000 ∧ l < 100000000 := by
  have h1 := nods_le h.fit h.top
  have h2 := deep_le l t h.fit h.top
  have h3 : l < 2 ^ l := Nat.lt_two_pow_self
  omega
theorem put_O (N : Nat) (w0 W : World) (g : Nat) (T : Option (Nat × B)) (key : ByteArray) (hk : key.size ≤ 281474976710656) (x : Int) (h : StO N w0 W g T) (hn : (entO T).length < 100000000) :
    Calls Try.prog 13 #[.pointer (some ⟨g, 0, none⟩), .string key, .int .i64 x] W fun e w' => ∃ v, e = .returned v ∧ Hid (∃ T', StO N w0 w' g T' ∧ (entO T').length ≤ (entO T).length + 1) := by
  cases T with
  | none =>
    refine (tput_none N g 0 0 (by decide) key hk x W h.hg h.tm (by decide)).mono ?_
    rintro e w' ⟨rfl, H⟩
    obtain ⟨b, h1, h2, h3, h4, h5⟩ := H.out
    refine ⟨_, rfl, some (0, .lf b [(key, x)]), ⟨⟨?_, h2, trivial, by simp [B.cnt, B.ss], by simp [fps], by simpa [fps, B.bk] using h4⟩, by simpa [fpO, fps, B.bk] using h5, h.hg, h.bl.trans h3, h.hn⟩, by simp [entO, ents]⟩
    exact h1
  | some lt =>
    obtain ⟨l, t⟩ := lt
    have ht : TreeM W g l t := h.tm
    have hb := ht.bounds hn
    obtain ⟨b, es, nx', rd', g1, g2, g3⟩ := lfn_mem key ht.mem ht.ok
    cases hh : hit (es.map sE) key with
    | false =>
      refine (tPut_miss g l t key hk x W ht hn hb.1 b es g1 hh).mono ?_
      rintro e w' ⟨rfl, H⟩
      obtain ⟨l', t', R⟩ := H.out
      refine ⟨_, rfl, some (l', t'), h.step R.tm R.fp R.upd, ?_⟩
      have := pos_le l t key
      simp only [entO]
      rw [R.ent]
      simp
      omega
    | true =>
      refine (tPut_hit g l t key x W ht b es g1 hh).mono ?_
      rintro e w' ⟨old, rfl, H⟩
      obtain ⟨t', q1, q2, q3, q4⟩ := H.out
      refine ⟨_, rfl, some (l, t'), h.step q1 (fun y hy => .inl (by rw [← q3]; exact hy)) q4, ?_⟩
      simp only [entO]
      rw [q2]
      simp
theorem get_miss (g l : Nat) (t : B) (n nd : Nat) (nx : Option Nat) (rd : Int) (key : ByteArray) (w : World) (h : Blk w g 55 (tC (some t.bk) n nd)) (hM : Mem w l t nx rd) (ho : Ok l t) (b : Nat) (es : List E) (hl : lfn l t key = .lf b es) (hh : hit (es.map sE) key = false) :
    Calls Try.prog 21 #[.pointer (some ⟨g, 0, none⟩), .string key] w fun e w' => e = .returned (.tuple #[.int .i64 0, .bool false]) ∧ Hid (Below w.heap.size w w') := by
  have K := find_any g l t n nd nx rd key w h hM ho b es hl none (by rw [hh]; rfl)
  clear h hM ho hl hh
  go_enter Try.func21, Try.ntmps21
  go_wp2_with fail
  refine K.mono ?_
  clear K
  rintro e w1 ⟨rfl, H⟩
  simp only [Option.map_none]
  go_wp2
  go_ret2
  exact ⟨rfl, H.out⟩
theorem get_hit (g l : Nat) (t : B) (n nd : Nat) (nx : Option Nat) (rd : Int) (key : ByteArray) (w : World) (h : Blk w g 55 (tC (some t.bk) n nd)) (hM : Mem w l t nx rd) (ho : Ok l t) (b : Nat) (es : List E) (hl : lfn l t key = .lf b es) (hh : hit (es.map sE) key = true) :
    Calls Try.prog 21 #[.pointer (some ⟨g, 0, none⟩), .string key] w fun e w' => ∃ old : E, e = .returned (.tuple #[.int .i64 old.2, .bool true]) ∧ Hid (es[sk (es.map sE) key]? = some old ∧ Below w.heap.size w w') := by
  obtain ⟨R, HR⟩ : ∃ R, Hid (sk (es.map sE) key = R) := ⟨_, rfl⟩
  have hj : sk (es.map sE) key < es.length := by have := hit_lt hh; simpa using this
  have K := find_any g l t n nd nx rd key w h hM ho b es hl (some R) (by rw [hh, HR.out]; rfl)
  obtain ⟨b', es', nx', rd', g1, g2, g3⟩ := lfn_mem key hM ho
  rw [hl] at g1
  injection g1 with q1 q2
  subst q1 q2
  rw [HR.out] at hj
  obtain ⟨old, hold⟩ : ∃ old, es[R]? = some old := ⟨_, List.getElem?_eq_getElem hj⟩
  have HN : Hid (Nd w b 0 (es.map sE) nx' rd') := g2
  have HO : Hid (es[R]? = some old) := hold
  have hr16 : R < 16 := by have := g2.le; rw [List.length_map] at this; omega
  rw [HR.out]
  clear h hM ho hl hh g2 g3 hold HR
  go_enter Try.func21, Try.ntmps21
  go_wp2_with fail
  refine K.mono ?_
  clear K
  rintro e w1 ⟨rfl, H⟩
  have cn : w1.cell? ⟨b, 2 + R * 3 + 1, none⟩ = some (.int .i64 old.2) := (HN.out.below H.out HN.out.lt).slot R (sE old) (pad_at (by rw [List.getElem?_map, HO.out]; rfl)) 1 (by decide)
  simp only [Option.map_some]
  go_wp2
  go_ret2
  exact ⟨old, rfl, HO.out, H.out⟩
theorem get_none (g n nd : Nat) (key : ByteArray) (w : World) (h : Blk w g 55 (tC none n nd)) : Calls Try.prog 21 #[.pointer (some ⟨g, 0, none⟩), .string key] w fun e w' => e = .returned (.tuple #[.int .i64 0, .bool false]) ∧ w' = w := by
  have K := find_none g n nd key w h
  clear h
  go_enter Try.func21, Try.ntmps21
  go_wp2_with fail
  refine K.mono ?_
  clear K
  rintro e w1 ⟨rfl, rfl⟩
  go_wp2
  go_ret2
  exact ⟨rfl, rfl⟩
theorem delete_miss (g : Nat) (key : ByteArray) (w : World) (K : Calls Try.prog 21 #[.pointer (some ⟨g, 0, none⟩), .string key] w fun e w' => e = .returned (.tuple #[.int .i64 0, .bool false]) ∧ Hid (Below w.heap.size w w')) : Calls Try.prog 14 #[.pointer (some ⟨g, 0, none⟩), .string key] w fun e w' => e = .returned (.tuple #[.int .i64 0, .bool false]) ∧ Hid (Below w.heap.size w w') := by
  go_enter Try.func14, Try.ntmps14
  go_wp2_with fail
  refine K.mono ?_
  clear K
  rintro e w1 ⟨rfl, H⟩
  go_wp2
  go_ret2
  exact ⟨rfl, H.out⟩
set_option maxHeartbeats 1000000 in
theorem delete_hit (g l : Nat) (t : B) (key : ByteArray) (w : World) (ht : TreeM w g l t) (hn : (ents l t).length < 100000000) (b : Nat) (es : List E) (hl : lfn l t key = .lf b es) (hh : hit (es.map sE) key = true) :
    Calls Try.prog 14 #[.pointer (some ⟨g, 0, none⟩), .string key] w fun e w' => ∃ old : E, e = .returned (.tuple #[.int .i64 old.2, .bool true]) ∧ Hid (es[sk (es.map sE) key]? = some old ∧ ∃ T, DelR w w' g l t key T) := by
  have hb := ht.bounds hn
  have HT : Hid (∀ W, Upd [] w W → TreeM W g l t) := fun W u => ht.upd u (by simp) (by simp)
  have HR : Hid (∀ W, Upd [] w W → Calls Try.prog 25 #[.pointer (some ⟨g, 0, none⟩)] W (fun e w' => e = .returned (.tuple #[]) ∧ w' = W) ∧ Calls Try.prog 29 #[.pointer (some ⟨g, 0, none⟩), .string key] W (fun e w' => e = .returned (.tuple #[]) ∧ Hid (∃ T, DelR W w' g l t key T))) := fun W u => by
    have h := HT.out W u
    exact ⟨own_some g t.bk _ _ W h.tree h.mem.nd.read, remove_any g l t key W h hn (by omega) (by omega) ⟨b, es, hl, hh⟩⟩
  have K := get_hit g l t _ _ none 0 key w ht.tree ht.mem ht.ok b es hl hh
  clear ht hn hl hh hb HT
  go_enter Try.func14, Try.ntmps14
  go_wp2_with fail
  refine K.mono ?_
  clear K
  rintro e w1 ⟨old, rfl, H⟩
  have HU : Hid (Upd [] w w1) := Upd.of_below [] H.out.2
  have HO : Hid (es[sk (es.map sE) key]? = some old) := H.out.1
  obtain ⟨K1, K2⟩ := HR.out w1 HU.out
  clear H HR
  go_wp2_with fail
  refine K1.mono ?_
  clear K1
  rintro e w2 ⟨rfl, hw⟩
  have hw' := hw.symm
  subst hw'
  clear hw
  go_wp2_with fail
  refine K2.mono ?_
  clear K2
  rintro e w3 ⟨rfl, H⟩
  have HE : Hid (es[sk (es.map sE) key]? = some old ∧ ∃ T, DelR w w3 g l t key T) := by
    obtain ⟨T, D⟩ := H.out
    exact ⟨HO.out, T, D.tm, D.ent, D.fp, (HU.out.mono (S' := g :: fps l t) (by simp)).trans D.upd (fun y hy _ => hy)⟩
  clear H HU HO
  go_wp2
  go_ret2
  exact ⟨old, rfl, HE.out⟩
theorem del_O (N : Nat) (w0 W : World) (g : Nat) (T : Option (Nat × B)) (key : ByteArray) (h : StO N w0 W g T) (hn : (entO T).length < 100000000) :
    Calls Try.prog 14 #[.pointer (some ⟨g, 0, none⟩), .string key] W fun e w' => ∃ v, e = .returned v ∧ Hid (∃ T', StO N w0 w' g T' ∧ (entO T').length ≤ (entO T).length + 1) := by
  cases T with
  | none =>
    refine (delete_miss g key W ((get_none g 0 0 key W h.tm).mono (by rintro e w' ⟨rfl, rfl⟩; exact ⟨rfl, Below.refl _ _⟩))).mono ?_
    rintro e w' ⟨rfl, H⟩
    exact ⟨_, rfl, none, h.below H.out, by omega⟩
  | some lt =>
    obtain ⟨l, t⟩ := lt
    have ht : TreeM W g l t := h.tm
    obtain ⟨b, es, nx', rd', g1, g2, g3⟩ := lfn_mem key ht.mem ht.ok
    cases hh : hit (es.map sE) key with
    | false =>
      refine (delete_miss g key W (get_miss g l t _ _ none 0 key W ht.tree ht.mem ht.ok b es g1 hh)).mono ?_
      rintro e w' ⟨rfl, H⟩
      exact ⟨_, rfl, some (l, t), h.below H.out, by omega⟩
    | true =>
      refine (delete_hit g l t key W ht hn b es g1 hh).mono ?_
      rintro e w' ⟨old, rfl, H⟩
      obtain ⟨_, T, D⟩ := H.out
      refine ⟨_, rfl, T, h.step D.tm (fun y hy => .inl (D.fp y hy)) D.upd, ?_⟩
      rw [D.ent]
      have := List.length_eraseIdx_le (ents l t) (pos l t key)
      simp only [entO]
      omega
/-! ### shaped -/
theorem shape_any (g : Nat) (T : Option (Nat × B)) (w : World) (h : TreeO w g T) (hn : (entO T).length < 100000000) : Calls Try.prog 23 #[.pointer (some ⟨g, 0, none⟩)] w fun e w' => ∃ d c : Nat, e = .returned (.tuple #[.int .i64 (d : Int), .int .i64 (c : Int)]) ∧ Hid (Below w.heap.size w w' ∧ (d ≠ 0 → 2 ^ (d - 1) ≤ (entO T).length) ∧ c ≤ (entO T).length ∧ (0 < d ↔ 0 < (entO T).length) ∧ (0 < c ↔ 0 < (entO T).length) ∧ d < 1000000000) := by
  cases T with
  | none =>
    have c0 : w.cell? ⟨g, 0, none⟩ = some (.pointer none) := Blk.cell h 0
    clear h
    go_enter Try.func23, Try.ntmps23
    go_wp2
    go_ret2
    exact ⟨0, 0, rfl, Below.refl _ _, by simp, by simp, by simp [entO], by simp [entO], by decide⟩
  | some lt =>
    obtain ⟨l, t⟩ := lt
    have ht : TreeM w g l t := h
    have hb := ht.bounds hn
    have hd := deep_le l t ht.fit ht.top
    have hm := nods_le ht.fit ht.top
    have hp := nods_pos l t
    have h2 : 1 ≤ 2 ^ l := Nat.one_le_two_pow
    have HF : Hid (((l + 1 : Nat) ≠ 0 → 2 ^ (l + 1 - 1) ≤ (ents l t).length) ∧ nods l t ≤ (ents l t).length ∧ (0 < l + 1 ↔ 0 < (ents l t).length) ∧ (0 < nods l t ↔ 0 < (ents l t).length) ∧ l + 1 < 1000000000) := ⟨fun _ => by simpa using hd, hm, by omega, by omega, by omega⟩
    obtain ⟨tb, htb⟩ : ∃ tb, t.bk = tb := ⟨_, rfl⟩
    obtain ⟨nd, hnd⟩ : ∃ nd, nods l t = nd := ⟨_, rfl⟩
    have c0 : w.cell? ⟨g, 0, none⟩ = some (.pointer (some ⟨tb, 0, none⟩)) := by have q := ht.tree.cell 0; rw [htb] at q; exact q
    have c2 : w.cell? ⟨g, 2, none⟩ = some (.int .i64 (nd : Int)) := by have q := ht.tree.cell 2; rw [← hnd]; exact q
    have cl : w.cell? ⟨tb, 0, none⟩ = some (.int .i64 (l : Int)) := by have q := ht.mem.nd.level; rw [htb] at q; exact q
    have e1 : wrap64 ((l : Int) + 1) = (l : Int) + 1 := wrap_small (n := l + 1) (by omega) (by omega)
    rw [hnd] at HF
    show Calls _ _ _ _ _
    simp only [entO]
    obtain ⟨m, hm'⟩ : ∃ m, (ents l t).length = m := ⟨_, rfl⟩
    rw [hm'] at HF ⊢
    have HG : Hid (g < w.heap.size ∧ tb < w.heap.size) := ⟨ht.tree.lt, by have := ht.mem.nd.lt; rw [htb] at this; exact this⟩
    clear h ht hb hd hm hp h2 hn htb hnd hm'
    obtain ⟨C, hC⟩ : ∃ C : World → Prop, C = fun W => Below w.heap.size w W := ⟨_, rfl⟩
    have C0 : Hid (C { w with drawn := w.drawn + 1 }) := by rw [hC]; exact Below.drew (Below.refl _ _)
    have CO : Hid (∀ W, C W → Below w.heap.size w W) := fun W q => by rw [hC] at q; exact q
    have F1 : Hid (∀ W, C W → W.cell? ⟨g, 0, none⟩ = some (.pointer (some ⟨tb, 0, none⟩))) := fun W q => ((CO.out W q).cell (p := ⟨g, 0, none⟩) HG.out.1).trans c0
    have F2 : Hid (∀ W, C W → W.cell? ⟨g, 2, none⟩ = some (.int .i64 (nd : Int))) := fun W q => ((CO.out W q).cell (p := ⟨g, 2, none⟩) HG.out.1).trans c2
    have F3 : Hid (∀ W, C W → W.cell? ⟨tb, 0, none⟩ = some (.int .i64 (l : Int))) := fun W q => ((CO.out W q).cell (p := ⟨tb, 0, none⟩) HG.out.2).trans cl
    clear hC
    go_enter Try.func23, Try.ntmps23
    go_wp2_with fail
    have hCp : ∀ p : Prop, (∀ W, C W → p) ↔ p := fun p => ⟨fun h => h _ C0.out, fun h _ _ => h⟩
    refine wp_region_quiet (C := C) (by kernel_rfl) (by kernel_rfl) C0.out ?_
    change wpQuiet _ _ _ _ (_ :: _ :: _ :: _ :: _ :: _ :: _ :: _ :: _ :: _ :: _ :: _ :: _ :: _ :: []) _
    repeat (first
      | go_big_quiet_skip
      | (go_big_quiet_want
         first
         | (refine q_cell 53 (.inr (.inr rfl)) (.tmp 15) rfl g 0 rfl _ F1.out ?_
            simp only [Act.put, List.setIfInBounds_toArray, List.set_cons_zero, List.set_cons_succ]
            go_big_quiet_on)
         | (refine q_cell 3 (.inl rfl) (.tmp 18) rfl tb 0 rfl _ F3.out ?_
            simp only [Act.put, List.setIfInBounds_toArray, List.set_cons_zero, List.set_cons_succ]
            go_big_quiet_on)
         | (refine q_cell 3 (.inl rfl) (.tmp 23) rfl g 2 rfl _ F2.out ?_
            simp only [Act.put, List.setIfInBounds_toArray, List.set_cons_zero, List.set_cons_succ]
            go_big_quiet_on)
         | (go_big_quiet_op
            go_big_quiet_on)))
    refine wpQuiet_nil ?_
    intro w9 h9
    have HN : Hid (Below w.heap.size w w9) := CO.out _ h9
    clear h9 hCp C0 F1 F2 F3 CO c0 c2 cl
    go_wp2
    go_ret2
    exact ⟨l + 1, nd, by simp [e1], HN.out, HF.out⟩
#print axioms del_O
#print axioms shape_any
end Go.Proofs.Yteokjfpppmnebaa
