/-
  The walk of DiskFuses.
-/
import Derived.Test.YtifeocedjomkmaaKl
import Derived.Test.YtifeocedjomkmaaRen
namespace Go.Proofs.Ytifeocedjomkmaa
open Go.RowKit
theorem ext_fuse (F : Int) (hF : F ≠ 0) (z : Prop) [Decidable z] (b l : List Nat) (k : Nat) (hz : z → b = [] ∧ k = 0) (h : b.length + l.length ≤ 1048576) :
    aDo [⟨#[102]⟩] (aExt 1048576 [102] l) ⟨1048576, F, one z b k⟩ = (0, ⟨1048576, fuseAfter F 0, [([102], ⟨b ++ l, k⟩)]⟩) := by
  have hb : [(⟨#[102]⟩ : ByteArray)].any bad = false := rfl
  by_cases hzz : z
  · obtain ⟨rfl, rfl⟩ := hz hzz
    have h1 : ¬ ((l.length : Int) > 1048576 - (total (one z [] 0) : Int) ∨ (get (one z [] 0) [102] = none ∧ 4096 ≤ (one z [] 0).length)) := by
      simp only [one, hzz, if_true, total, List.map_nil, List.sum_nil, List.length_nil] at *
      omega
    simp only [aDo, hb, aExt, if_neg h1, hF, if_false]
    simp [one, hzz, get, ins]
  · have h1 : ¬ ((l.length : Int) > 1048576 - (total (one z b k) : Int) ∨ (get (one z b k) [102] = none ∧ 4096 ≤ (one z b k).length)) := by
      simp only [one, hzz, if_false, total, List.map_cons, List.map_nil, List.sum_cons, List.sum_nil, List.length_cons, List.length_nil] at *
      omega
    simp only [aDo, hb, aExt, if_neg h1, hF, if_false]
    simp [one, hzz, get, fupd]
theorem dead (ns : List ByteArray) (act : List (Nm × Fl) → Int × List (Nm × Fl)) (room : Int) (fs : List (Nm × Fl)) : aDo ns act ⟨room, 0, fs⟩ = (20, ⟨room, 0, fs⟩) := by simp [aDo]
theorem remove_none (F : Int) (hF : F ≠ 0) (z : Prop) [Decidable z] (b : List Nat) (k : Nat) : aDo [⟨#[110, 111, 110, 101]⟩] (aRemove [110, 111, 110, 101]) ⟨1048576, F, one z b k⟩ = (7, ⟨1048576, F, one z b k⟩) := by
  have hb : [(⟨#[110, 111, 110, 101]⟩ : ByteArray)].any bad = false := rfl
  have hg : get (one z b k) [110, 111, 110, 101] = none := by unfold one; split <;> rfl
  simp [aDo, hb, hF, aRemove, hg, fuseAfter]
theorem append_z (fs : List (Nm × Fl)) (hl : fs.length ≤ 1) (ht : total fs ≤ 1048576) : ∃ a', aDo [⟨#[122]⟩] (aExt 1048576 [122] []) ⟨1048576, -1, fs⟩ = (0, a') := by
  have hb : [(⟨#[122]⟩ : ByteArray)].any bad = false := rfl
  have h1 : ¬ ((([] : List Nat).length : Int) > 1048576 - (total fs : Int) ∨ (get fs [122] = none ∧ 4096 ≤ fs.length)) := by
    simp only [List.length_nil]
    omega
  simp only [aDo, hb, aExt, if_neg h1]
  cases get fs [122] with
  | none => exact ⟨_, by simp; rfl⟩
  | some x => exact ⟨_, by simp; rfl⟩
/-- What stands when k rows have been offered. -/
def Fz (w wr : World) (bd : Nat) (S : Nat → Prop) (rs : List Rw) (n k : Nat) : Prop := Mine w wr bd S ⟨1048576, (n : Int) - (min k n : Nat), one (min k n = 0) (cat (rs.take (min k n))) 0⟩
theorem Fz.append {w wr : World} {bd : Nat} {S : Nat → Prop} {rs : List Rw} {n k : Nat} (h : Fz w wr bd S rs n k) (hk : k < rs.length) (hr : RowAt w rs[k]) (hl : (cat (rs.take (k + 1))).length ≤ 8000) :
    Calls Try.prog 10 #[.pointer (some ⟨bd, 0, none⟩), .string ⟨#[102]⟩, .slice rs[k].1 rs[k].2.2.length rs[k].2.1] wr fun e w1 => e = .returned (.int .i64 (if k < n then 0 else 20)) ∧ Hid (∃ S', Fz w w1 bd S' rs n (k + 1)) := by
  have hsrc : Src wr S rs[k].1 rs[k].2.1 rs[k].2.2 := by
    refine ⟨hr.byt.below h.below, hr.nil, fun b off e hl hb => ?_, hr.oct⟩
    rcases hr.byt with e' | ⟨b', off', e', hc⟩
    · exact hl e'
    · rw [e] at e'
      injection e' with e'
      injection e' with e1
      subst e1
      have h1 := h.base _ hb
      have : 0 < rs[k].2.2.length := by
        cases hq : rs[k].2.2 with
        | nil => exact absurd hq hl
        | cons _ _ => simp
      have h2 := cell_lt (hc 0 this)
      omega
  have hcs := cat_snoc rs k hk
  rw [hcs, List.length_append] at hl
  by_cases hn : k < n
  · rw [if_pos hn]
    have e1 : min k n = k := by omega
    have e2 : min (k + 1) n = k + 1 := by omega
    unfold Fz at h
    rw [e1] at h
    have hF : ((n : Int) - (k : Nat)) ≠ 0 := by omega
    refine (Mine.append h ⟨#[102]⟩ _ _ _ hsrc (ext_fuse _ hF (k = 0) _ rs[k].2.2 0 (fun e => ?_) (by omega))).mono ?_
    · subst e; simp [cat]
    · rintro e w1 ⟨rfl, S', m1, _⟩
      refine ⟨rfl, S', ?_⟩
      unfold Fz
      rw [e2, hcs]
      have e3 : fuseAfter ((n : Int) - (k : Nat)) 0 = (n : Int) - ((k + 1 : Nat) : Int) := by
        unfold fuseAfter
        rw [if_pos ⟨rfl, by omega⟩]
        omega
      rw [e3] at m1
      simpa [one] using m1
  · rw [if_neg hn]
    have e1 : min k n = n := by omega
    have e2 : min (k + 1) n = n := by omega
    unfold Fz at h
    rw [e1] at h
    have hF : ((n : Int) - (n : Nat)) = 0 := by omega
    rw [hF] at h
    refine (Mine.append h ⟨#[102]⟩ _ _ _ hsrc (dead _ _ _ _)).mono ?_
    rintro e w1 ⟨rfl, S', m1, _⟩
    refine ⟨rfl, S', ?_⟩
    unfold Fz
    rw [e2, hF]
    exact m1
theorem Fz.remove {w wr : World} {bd : Nat} {S : Nat → Prop} {rs : List Rw} {n k : Nat} (h : Fz w wr bd S rs n k) :
    Calls Try.prog 16 #[.pointer (some ⟨bd, 0, none⟩), .string ⟨#[110, 111, 110, 101]⟩] wr fun e w1 => e = .returned (.int .i64 (if k < n then 7 else 20)) ∧ Hid (∃ S', Fz w w1 bd S' rs n k) := by
  refine (remove_disk h.disk ⟨#[110, 111, 110, 101]⟩).mono ?_
  rintro e w1 ⟨rfl, S', d, g⟩
  by_cases hn : k < n
  · rw [if_pos hn]
    have hF : ((n : Int) - (min k n : Nat)) ≠ 0 := by omega
    have e := remove_none _ hF (min k n = 0) (cat (rs.take (min k n))) 0
    have e' : (⟨#[110, 111, 110, 101]⟩ : ByteArray).data.toList = [110, 111, 110, 101] := rfl
    rw [e', e] at d ⊢
    exact ⟨rfl, S', h.went d g⟩
  · rw [if_neg hn]
    have hF : ((n : Int) - (min k n : Nat)) = 0 := by omega
    have e := dead [⟨#[110, 111, 110, 101]⟩] (aRemove [110, 111, 110, 101]) 1048576 (one (min k n = 0) (cat (rs.take (min k n))) 0)
    have e' : (⟨#[110, 111, 110, 101]⟩ : ByteArray).data.toList = [110, 111, 110, 101] := rfl
    rw [← hF] at e
    rw [e', e] at d ⊢
    exact ⟨rfl, S', h.went d g⟩
theorem Fz.crash {w wr : World} {bd : Nat} {S : Nat → Prop} {rs : List Rw} {n k : Nat} (h : Fz w wr bd S rs n k) :
    Calls Try.prog 12 #[.pointer (some ⟨bd, 0, none⟩), .int .i64 0] wr fun e w1 => e = .returned (.tuple #[]) ∧ Hid (∃ S' fs, Mine w w1 bd S' ⟨1048576, -1, fs⟩ ∧ fs.length ≤ 1 ∧ total fs ≤ 1048576) := by
  refine (crash_disk h.disk 0).mono ?_
  rintro e w1 ⟨rfl, S', d, g⟩
  have hf := d.1.fs
  have h2 : ((total (aCrash (Int.toNat 0) (one (min k n = 0) (cat (rs.take (min k n))) 0)) : Nat) : Int) ≤ 1048576 := hf.used
  refine ⟨rfl, S', aCrash (Int.toNat 0) (one (min k n = 0) (cat (rs.take (min k n))) 0), h.went d g, ?_, by omega⟩
  unfold aCrash
  rw [List.length_map]
  simp only [one]
  split <;> simp
theorem Mine.appendZ {w wr : World} {bd : Nat} {S : Nat → Prop} {fs : List (Nm × Fl)} (h : Mine w wr bd S ⟨1048576, -1, fs⟩) (hl : fs.length ≤ 1) (ht : total fs ≤ 1048576) :
    Calls Try.prog 10 #[.pointer (some ⟨bd, 0, none⟩), .string ⟨#[122]⟩, .slice none 0 0] wr fun e w1 => e = .returned (.int .i64 0) ∧ Below w.heap.size w w1 := by
  obtain ⟨a', e⟩ := append_z fs hl ht
  refine (h.append ⟨#[122]⟩ none 0 [] ⟨.inl rfl, fun _ => rfl, (fun _ _ e => by cases e), (fun _ h => by cases h)⟩ e).mono ?_
  rintro e w1 ⟨rfl, S', m, _⟩
  exact ⟨rfl, m.below⟩
set_option maxHeartbeats 1000000 in
set_option maxRecDepth 100000 in
theorem fuses_walk (nn : Int) (a0 : Option Addr) (cap : Nat) (rs : List Rw) (w : World) (hrs : Rws w a0 rs) (hlen : rs.length * 24 ≤ 140737488351232) :
    Calls Try.prog 4 #[.int .i64 nn, .slice a0 rs.length cap] w fun e w' => e = .returned (.bool true) ∧ Below w.heap.size w w' := by
  have HR : Hid (Rws w a0 rs) := hrs
  have HN : Hid (rs.length * 24 ≤ 140737488351232) := hlen
  have HK : Hid (∀ W, Below w.heap.size w W → Calls Try.prog 8 #[] W fun e w' => e = .returned (.bool true) ∧ Below w.heap.size w w') := fun W hB => (known_any W).mono fun _ _ ⟨e, b⟩ => ⟨e, hB.trans (b.mono hB.size)⟩
  clear hrs hlen
  go_enter Try.func4, Try.ntmps4
  go_wp2
  go_loopw [5, 6] (fun n i wr => ∃ k : Nat, k ≤ rs.length ∧ i = .int .i64 k ∧ n = .int .i64 (wt (rs.take k) : Nat) ∧ wr = w ∧ wt (rs.take k) ≤ 140737488360000) (fun _ i _ => rs.length - (intOf i).toNat)
  case atStart => exact ⟨0, by omega, rfl, by simp [wt], rfl, by simp [wt]⟩
  case round =>
    obtain ⟨k, hk, rfl, rfl, hwr, hw8⟩ := hrel
    have hwr' := hwr.symm
    subst hwr'
    clear hwr
    by_cases hlt : k < rs.length
    · by_cases h8 : wt (rs.take k) ≤ 8000
      · obtain ⟨b, off, rfl, hr⟩ : ∃ b off, a0 = some ⟨b, off, none⟩ ∧ ∀ i r, rs[i]? = some r → w.cell? ⟨b, off + i, none⟩ = some (.slice r.1 r.2.2.length r.2.1) ∧ RowAt w r := by
          rcases HR.out with h | h
          · subst h; simp at hlt
          · exact h
        obtain ⟨hc, hra⟩ := hr k _ (List.getElem?_eq_getElem hlt)
        have hlr := hra.len
        have HW : Hid (wt (rs.take (k + 1)) = wt (rs.take k) + (1 + rs[k].2.2.length)) := wt_snoc rs k hlt
        clear hr hra
        generalize rs[k].2.2.length = lr at *
        generalize rs[k].1 = x1 at *
        generalize rs[k].2.1 = x2 at *
        generalize wt (rs.take k) = t at *
        have HN' := HN.out
        go_wp2
        go_roundw
        case rel => exact ⟨k + 1, by omega, by go_num, by rw [HW.out]; go_num, by simp, by rw [HW.out]; omega⟩
        case measure => simp [intOf]; omega
      · generalize wt (rs.take k) = t at *
        go_wp2_with (go_at_call 8; refine (HK.out _ (Below.refl _ _)).mono ?_; rintro e w' ⟨rfl, hB⟩)
        go_ret
        exact ⟨rfl, hB⟩
    · obtain rfl : k = rs.length := by omega
      rw [List.take_length] at hw8 ⊢
      by_cases h8 : wt rs ≤ 8000 ∧ 0 ≤ nn ∧ nn ≤ 1000
      · obtain ⟨h8, hn0, hn1⟩ := h8
        obtain ⟨n, rfl⟩ : ∃ n : Nat, nn = (n : Int) := ⟨nn.toNat, by omega⟩
        have hcl := cat_le rs
        have HC : Hid ((cat rs).length + rs.length ≤ 8000) := by show _ ≤ _; omega
        have hl8 : rs.length ≤ 8000 := by omega
        clear hcl
        generalize wt rs = t at *
        go_wp2_with fail
        refine (new_any 1048576 w (by decide) (by decide)).mono ?_
        rintro e w1 ⟨bd, S1, rfl, d1, n1, b1⟩
        have H0 : Hid (Calls Try.prog 15 #[.pointer (some ⟨bd, 0, none⟩), .int .i64 (n : Int)] w1 fun e w2 => e = .returned (.tuple #[]) ∧ Hid (∃ S', Fz w w2 bd S' rs n 0)) := by
          refine (fuse_disk d1 n (by omega)).mono ?_
          rintro e w2 ⟨rfl, S', d2, g2⟩
          refine ⟨rfl, S', ?_⟩
          have m2 := Mine.went (⟨d1, n1, b1⟩ : Mine w w1 bd S1 _) d2 g2
          have e1 : max (n : Int) (-1) = (n : Int) := by omega
          rw [e1] at m2
          unfold Fz
          rw [Nat.zero_min]
          simpa [one] using m2
        clear d1 n1 b1 hw8
        go_wp2_with fail
        refine H0.out.mono ?_
        clear H0
        rintro e w2 ⟨rfl, H1⟩
        go_wp2
        go_loopw [9] (fun i wr => ∃ (k : Nat) (S : Nat → Prop), k ≤ rs.length ∧ i = .int .i64 k ∧ Fz w wr bd S rs n k) (fun i _ => rs.length - (intOf i).toNat)
        case atStart =>
          obtain ⟨S', h⟩ := H1.out
          exact ⟨0, S', by omega, rfl, h⟩
        case round =>
          obtain ⟨k, S, hk, rfl, fz⟩ := hrel
          have HP : Hid (Fz w wr bd S rs n k) := fz
          clear fz H1
          by_cases hlt : k < rs.length
          · obtain ⟨b, off, rfl, hr⟩ : ∃ b off, a0 = some ⟨b, off, none⟩ ∧ ∀ i r, rs[i]? = some r → w.cell? ⟨b, off + i, none⟩ = some (.slice r.1 r.2.2.length r.2.1) ∧ RowAt w r := by
              rcases HR.out with h | h
              · subst h; simp at hlt
              · exact h
            obtain ⟨hc0, hra⟩ := hr k _ (List.getElem?_eq_getElem hlt)
            have hc := (HP.out.below.cell (p := ⟨b, off + k, none⟩) (cell_lt hc0)).trans hc0
            have HA := HP.out.append hlt hra (by have := HC.out; have := cat_take rs (k + 1); omega)
            clear hr hra hc0
            generalize rs[k] = row at *
            obtain ⟨x1, x2, l⟩ := row
            simp only at hc HA
            by_cases hkn : k < n
            · rw [if_pos hkn] at HA
              have hkn' : (k : Int) < (n : Int) := by omega
              go_wp2_with fail
              refine HA.mono ?_
              clear HA hc
              rintro e wa ⟨rfl, H2⟩
              go_wp2
              go_roundw
              case rel =>
                obtain ⟨S', h⟩ := H2.out
                exact ⟨k + 1, S', by omega, by go_num, h⟩
              case measure => simp [intOf]; omega
            · rw [if_neg hkn] at HA
              have hkn' : ¬ ((k : Int) < (n : Int)) := by omega
              go_wp2_with fail
              refine HA.mono ?_
              clear HA hc
              rintro e wa ⟨rfl, H2⟩
              go_wp2
              go_roundw
              case rel =>
                obtain ⟨S', h⟩ := H2.out
                exact ⟨k + 1, S', by omega, by go_num, h⟩
              case measure => simp [intOf]; omega
          · obtain rfl : k = rs.length := by omega
            have HA := HP.out.remove
            clear HP
            by_cases hkn : rs.length < n
            · rw [if_pos hkn] at HA
              have hkn' : (rs.length : Int) < (n : Int) := by omega
              go_wp2_with fail
              refine HA.mono ?_
              clear HA
              rintro e wa ⟨rfl, H2⟩
              obtain ⟨S', fz⟩ := H2.out
              have HB := fz.crash
              clear H2 fz
              go_wp2_with fail
              refine HB.mono ?_
              clear HB
              rintro e wb ⟨rfl, H3⟩
              obtain ⟨S3, fs, m3, hl3, ht3⟩ := H3.out
              have HD := m3.appendZ hl3 ht3
              clear H3 m3 hl3 ht3
              go_wp2_with fail
              refine HD.mono ?_
              clear HD
              rintro e wc ⟨rfl, hB⟩
              go_wp2_with (go_at_call 8; refine (HK.out _ hB).mono ?_; rintro e w' ⟨rfl, hB2⟩)
              go_ret
              exact ⟨rfl, hB2⟩
            · rw [if_neg hkn] at HA
              have hkn' : ¬ ((rs.length : Int) < (n : Int)) := by omega
              go_wp2_with fail
              refine HA.mono ?_
              clear HA
              rintro e wa ⟨rfl, H2⟩
              obtain ⟨S', fz⟩ := H2.out
              have HB := fz.crash
              clear H2 fz
              go_wp2_with fail
              refine HB.mono ?_
              clear HB
              rintro e wb ⟨rfl, H3⟩
              obtain ⟨S3, fs, m3, hl3, ht3⟩ := H3.out
              have HD := m3.appendZ hl3 ht3
              clear H3 m3 hl3 ht3
              go_wp2_with fail
              refine HD.mono ?_
              clear HD
              rintro e wc ⟨rfl, hB⟩
              go_wp2_with (go_at_call 8; refine (HK.out _ hB).mono ?_; rintro e w' ⟨rfl, hB2⟩)
              go_ret
              exact ⟨rfl, hB2⟩
      · clear HR HN
        generalize wt rs = t at *
        generalize rs.length = len at *
        by_cases q1 : t ≤ 8000
        · by_cases q2 : 0 ≤ nn
          · have q3 : ¬ (nn ≤ 1000) := fun q3 => h8 ⟨q1, q2, q3⟩
            have q3' : 1000 < nn := by omega
            clear h8 q3
            go_wp2_with (go_at_call 8; refine (HK.out _ (Below.refl _ _)).mono ?_; rintro e w' ⟨rfl, hB⟩)
            go_ret
            exact ⟨rfl, hB⟩
          · have q2' : nn < 0 := by omega
            clear h8 q2
            go_wp2_with (go_at_call 8; refine (HK.out _ (Below.refl _ _)).mono ?_; rintro e w' ⟨rfl, hB⟩)
            go_ret
            exact ⟨rfl, hB⟩
        · have q1' : (8000 : Int) < (t : Int) := by omega
          clear h8 q1
          go_wp2_with (go_at_call 8; refine (HK.out _ (Below.refl _ _)).mono ?_; rintro e w' ⟨rfl, hB⟩)
          go_ret
          exact ⟨rfl, hB⟩
#print axioms fuses_walk
end Go.Proofs.Ytifeocedjomkmaa
