/-
  The document's own disk: may, did, Used, Read, New, Fuse.
-/
import Derived.Test.YtmpnceicodfifaaGreatRef
import Derived.RegionTactic
namespace Go.Proofs.YtmpnceicodfifaaGreat
open Go.RowKit Go.Maps
set_option linter.unusedVariables false
theorem own_src {w : World} {base : Nat} {v : Value} {l : List Nat} (h : Own w base v l) : ∃ a c, v = .slice a l.length c ∧ Byt w a l ∧ (a = none → c = 0) := by
  obtain ⟨a, c, e, hc, hn⟩ := h.shape
  refine ⟨a, c, e, ?_, hn⟩
  by_cases h0 : 0 < l.length
  · obtain ⟨g, cap, e2, _, _, _, _, hcell⟩ := h.form h0
    rw [e] at e2
    injection e2 with e2
    exact .inr ⟨g, 0, e2, hcell⟩
  · exact .inl (List.eq_nil_of_length_eq_zero (by omega))
theorem Seen.below {w w' : World} {br : Nat} {a : Ab} {its : List It} {aL : Option Addr} {cL : Nat} (h : Seen w br a its aL cL) (hb : Below w.heap.size w w') : Seen w' br a its aL cL := by
  have c : ∀ {p : Addr} {v : Value}, p.spot = none → w.cell? p = some v → w'.cell? p = some v := fun {p v} hp hv => by
    obtain ⟨b, o, sp⟩ := p
    simp only at hp
    subst hp
    exact (hb.cell (p := ⟨b, o, none⟩) (cell_lt hv)).trans hv
  refine ⟨c rfl h.c0, c rfl h.c1, c rfl h.c2, h.le, h.max, h.nil, ?_, h.fs, fun x hx => (h.row x hx).keptBy (Kept.of_below (S := fun _ => False) hb) (fun _ _ h => h)⟩
  rcases h.src with e | ⟨b, off, e, hc⟩
  · exact .inl e
  · exact .inr ⟨b, off, e, fun j u hj => c rfl (hc j u hj)⟩
theorem spot_b {w : World} {br : Nat} {a : Ab} {its : List It} {aL : Option Addr} {cL : Nat} (h : Seen w br a its aL cL) (s : ByteArray) (hr : Ris a.fs) (hn : its.length ≤ 4096) :
    Calls Tryz.prog 61 #[.pointer (some ⟨br, 0, none⟩), .string s] w fun e w' => e = .returned (.tuple #[.int .i64 (idx s.data.toList a.fs : Nat), .bool (get a.fs s.data.toList).isSome]) ∧ Below w.heap.size w w' := by
  refine (spot_any h s hr hn).mono ?_
  rintro e w' ⟨rfl, q, rfl⟩
  exact ⟨rfl, ⟨rfl, rfl, rfl, Nat.le_refl _, fun _ _ => rfl⟩⟩
def mayE (fuse : Int) (ns : List ByteArray) : Int := if fuse = 0 then 20 else if ns.any bad = true then 1 else 0
set_option maxHeartbeats 1000000 in
theorem may_any (br g c : Nat) (fuse : Int) (ns : List ByteArray) (hl : ns.length < 1000) (w : World) (c2 : w.cell? ⟨br, 2, none⟩ = some (.int .i64 fuse)) (ht : Txts w g ns) :
    Calls Tryz.prog 60 #[.pointer (some ⟨br, 0, none⟩), .slice (some ⟨g, 0, none⟩) ns.length c] w fun e w' => e = .returned (.int .i64 (mayE fuse ns)) ∧ w' = w := by
  by_cases hz : (fuse == 0) = true
  · have HM : Hid (mayE fuse ns = 20) := by show _ = _; unfold mayE; rw [if_pos (by simpa using hz)]
    go_enter Tryz.func60, Tryz.ntmps60
    go_wp2
    go_ret
    exact ⟨ret_int HM.out.symm, rfl⟩
  have hz' : (fuse == 0) = false := by simpa using hz
  have hzn : ¬ fuse = 0 := by simpa using hz
  clear hz
  go_enter Tryz.func60, Tryz.ntmps60
  go_wp2
  go_loop [5] (fun i => ∃ k : Nat, k ≤ ns.length ∧ i = .int .i64 k ∧ ∀ s ∈ ns.take k, bad s = false) (fun i => ns.length - (intOf i).toNat)
  case atStart => exact ⟨0, by omega, rfl, by simp⟩
  case round =>
    obtain ⟨k, hk, rfl, hb⟩ := hrel
    have HB : Hid (∀ s ∈ ns.take k, bad s = false) := hb
    clear hb
    by_cases hlt : k < ns.length
    · have hs := List.getElem?_eq_getElem hlt
      have hc := ht k _ hs
      have HS : Hid (ns[k]? = some ns[k]) := hs
      have hsz := Nat.zero_le ns[k].size
      generalize ns[k] = s at *
      clear ht hs
      by_cases h1 : s.size < 1
      · have HM : Hid (mayE fuse ns = 1) := by
          show _ = _; unfold mayE; rw [if_neg hzn, if_pos]
          exact List.any_eq_true.2 ⟨s, List.mem_of_getElem? HS.out, by simp [bad, h1]⟩
        go_wp2
        go_ret
        exact ⟨ret_int HM.out.symm, rfl⟩
      by_cases h2 : 64 < s.size
      · have HM : Hid (mayE fuse ns = 1) := by
          show _ = _; unfold mayE; rw [if_neg hzn, if_pos]
          exact List.any_eq_true.2 ⟨s, List.mem_of_getElem? HS.out, by simp [bad, h2]⟩
        go_wp2
        go_ret
        exact ⟨ret_int HM.out.symm, rfl⟩
      have HN : Hid (∀ t ∈ ns.take (k + 1), bad t = false) := fun t ht => by
        rw [List.take_succ_eq_append_getElem hlt] at ht
        rcases List.mem_append.1 ht with h | h
        · exact HB.out t h
        · have e : ns[k] = s := by have := HS.out; rw [List.getElem?_eq_getElem hlt] at this; exact Option.some.inj this
          rw [e] at h
          have : t = s := by simpa using h
          subst this
          unfold bad
          rw [Bool.or_eq_false_iff]
          exact ⟨decide_eq_false h1, decide_eq_false h2⟩
      go_wp2
      go_round
      case rel => exact ⟨k + 1, by omega, by go_num, HN.out⟩
      case measure => simp [intOf]; omega
    · have HM : Hid (mayE fuse ns = 0) := by
        show _ = _; unfold mayE; rw [if_neg hzn, if_neg]
        have := HB.out
        rw [List.take_of_length_le (by omega)] at this
        intro h
        obtain ⟨s, hs, hb⟩ := List.any_eq_true.1 h
        rw [this s hs] at hb; cases hb
      clear ht
      go_wp2
      go_ret
      exact ⟨ret_int HM.out.symm, rfl⟩
theorem Ref.setFuse {w : World} {br : Nat} {R : Nat → Prop} {a : Ab} (h : Ref w br R a) (f : Int) : Ref (w.setCell ⟨br, 2, none⟩ (.int .i64 f)) br R ⟨a.room, f, a.fs⟩ := by
  have hk : Kept (fun i => i = br) w (w.setCell ⟨br, 2, none⟩ (.int .i64 f)) := Kept.setCell (S := fun i => i = br) w ⟨br, 2, none⟩ _ rfl
  obtain ⟨vL, its, h1, h2, h3, h4, rfl⟩ := h
  refine ⟨vL, its, h1.set 2 _, h2.keptBy hk (fun g hg e => ?_), fun x hx => (h3 x hx).keptBy hk (fun g hg e => ?_), h4, rfl⟩
  · obtain ⟨_, hv⟩ := h2.blk hg
    exact hv.ne h1 (by decide) e
  · obtain ⟨_, hv⟩ := (h3 x hx).blk hg
    exact hv.ne h1 (by decide) e
theorem Ref.br_in {w : World} {br : Nat} {R : Nat → Prop} {a : Ab} (h : Ref w br R a) : R br := by
  obtain ⟨vL, its, h1, h2, h3, h4, rfl⟩ := h
  exact .inl rfl
theorem Ref.frozen {w : World} {br : Nat} {R : Nat → Prop} {a : Ab} (h : Ref w br R a) (i : Nat) : w.frozen? ⟨br, i, none⟩ = false := by
  obtain ⟨vL, its, h1, h2, h3, h4, rfl⟩ := h
  exact h1.frozen i
set_option maxHeartbeats 1000000 in
theorem did_any {w : World} {br : Nat} {R : Nat → Prop} {a : Ab} (h : Ref w br R a) (h0 : -1 ≤ a.fuse) (h1 : a.fuse < 9223372036854775808) :
    Calls Tryz.prog 62 #[.pointer (some ⟨br, 0, none⟩)] w fun e w' => e = .returned (.int .i64 0) ∧ Ref w' br R ⟨a.room, fuseAfter a.fuse 0, a.fs⟩ ∧ Went w w' R R := by
  obtain ⟨its, aL, cL, hs⟩ := h.seen
  have c2 := hs.c2
  have z2 := h.frozen 2
  by_cases hf : 0 < a.fuse
  · have e : fuseAfter a.fuse 0 = a.fuse - 1 := by unfold fuseAfter; rw [if_pos ⟨rfl, hf⟩]
    have HR : Hid (Ref (w.setCell ⟨br, 2, none⟩ (.int .i64 (a.fuse - 1))) br R ⟨a.room, fuseAfter a.fuse 0, a.fs⟩ ∧ Went w (w.setCell ⟨br, 2, none⟩ (.int .i64 (a.fuse - 1))) R R) := by
      rw [e]
      exact ⟨h.setFuse _, Went.of_kept (Kept.setCell (S := fun i => i = br) w ⟨br, 2, none⟩ _ rfl) (fun i _ e => e ▸ h.br_in)⟩
    clear h hs e
    go_enter Tryz.func62, Tryz.ntmps62
    go_wp2
    go_ret
    exact ⟨rfl, HR.out⟩
  · have e : fuseAfter a.fuse 0 = a.fuse := by unfold fuseAfter; rw [if_neg (by omega)]
    have HR : Hid (Ref w br R ⟨a.room, fuseAfter a.fuse 0, a.fs⟩) := by rw [e]; exact h
    clear h hs e
    go_enter Tryz.func62, Tryz.ntmps62
    go_wp2
    go_ret
    exact ⟨rfl, HR.out, Went.refl _ _⟩
theorem total_take (fs : List (Nm × Fl)) (k : Nat) (p : Nm × Fl) (h : fs[k]? = some p) : total (fs.take (k + 1)) = total (fs.take k) + p.2.b.length := by
  have hlt := (List.getElem?_eq_some_iff.1 h).1
  rw [List.take_succ_eq_append_getElem hlt]
  rw [List.getElem?_eq_getElem hlt] at h
  rw [Option.some.inj h]
  simp [total]
theorem total_take_le (fs : List (Nm × Fl)) (k : Nat) : total (fs.take k) ≤ total fs := by
  have e := congrArg total (List.take_append_drop k fs)
  have e2 : total (fs.take k ++ fs.drop k) = total (fs.take k) + total (fs.drop k) := by unfold total; rw [List.map_append, List.sum_append]
  omega
set_option maxHeartbeats 1000000 in
theorem used_any {w : World} {br : Nat} {a : Ab} {its : List It} {aL : Option Addr} {cL : Nat} (h : Seen w br a its aL cL) (hn : its.length ≤ 4096) (ht : total a.fs ≤ 1073741824) :
    Calls Tryz.prog 45 #[.pointer (some ⟨br, 0, none⟩)] w fun e w' => e = .returned (.int .i64 (total a.fs : Nat)) ∧ w' = w := by
  have c1 := h.c1
  have hfl : a.fs.length = its.length := by rw [h.fs]; simp
  go_enter Tryz.func45, Tryz.ntmps45
  go_wp2
  go_loop [3, 4] (fun n i => ∃ k t : Nat, k ≤ its.length ∧ i = .int .i64 k ∧ n = .int .i64 t ∧ t = total (a.fs.take k)) (fun _ i => its.length - (intOf i).toNat)
  case atStart => exact ⟨0, 0, by omega, rfl, rfl, by simp [total]⟩
  case round =>
    obtain ⟨k, t, hk, rfl, rfl, htt⟩ := hrel
    have HT : Hid (t = total (a.fs.take k)) := htt
    have htl : t ≤ 1073741824 := by have := total_take_le a.fs k; omega
    clear htt
    by_cases hlt : k < its.length
    · obtain ⟨b, off, x, rfl, hx, hfx, f0, f1, _, ho⟩ := h.file hlt
      obtain ⟨ax, cx, ev, _⟩ := ho.shape
      rw [ev] at f1
      have hxl : x.b.length ≤ 1073741824 := by
        have h1 := total_take a.fs k _ hfx
        have h2 := total_take_le a.fs (k + 1)
        simp only at h1
        omega
      have HN : Hid (t + x.b.length = total (a.fs.take (k + 1))) := by show _ = _; rw [total_take a.fs k _ hfx, HT.out]
      clear h hfx hx ho ev hfl ht f0
      generalize x.b.length = m at *
      go_wp2
      go_round
      case rel => exact ⟨k + 1, t + m, by omega, by go_num, by go_num, HN.out⟩
      case measure => simp [intOf]; omega
    · have HE : Hid (t = total a.fs) := by show _ = _; rw [HT.out, List.take_of_length_le (by omega)]
      clear h hfl ht
      go_wp2
      go_ret
      exact ⟨ret_int (by rw [HE.out]), rfl⟩
set_option maxHeartbeats 1000000 in
theorem rread_any {w : World} {br : Nat} {a : Ab} {its : List It} {aL : Option Addr} {cL : Nat} (h : Seen w br a its aL cL) (s : ByteArray) (hr : Ris a.fs) (hn : its.length ≤ 4096) (ht : total a.fs ≤ 1073741824) :
    Calls Tryz.prog 40 #[.pointer (some ⟨br, 0, none⟩), .string s] w fun e w' => ∃ v err, e = .returned (.tuple #[v, .int .i64 err]) ∧ Told w' w.heap.size v err (get a.fs s.data.toList) ∧ Below w.heap.size w w' := by
  have HS : Hid (Calls Tryz.prog 61 #[.pointer (some ⟨br, 0, none⟩), .string s] w fun e w' => e = .returned (.tuple #[.int .i64 (idx s.data.toList a.fs : Nat), .bool (get a.fs s.data.toList).isSome]) ∧ Below w.heap.size w w') := spot_b h s hr hn
  have hfl : a.fs.length = its.length := by rw [h.fs]; simp
  cases hg : get a.fs s.data.toList with
  | none =>
    rw [hg] at HS
    have HS2 : Hid (Calls Tryz.prog 61 #[.pointer (some ⟨br, 0, none⟩), .string s] w fun e w' => e = .returned (.tuple #[.int .i64 (idx s.data.toList a.fs : Nat), .bool false]) ∧ Below w.heap.size w w') := HS.out
    clear h HS
    go_enter Tryz.func40, Tryz.ntmps40
    go_wp2_with fail
    refine HS2.out.mono ?_
    rintro e w1 ⟨rfl, b1⟩
    go_wp2
    go_ret2
    exact ⟨_, _, rfl, ⟨rfl, rfl⟩, b1⟩
  | some y =>
    rw [hg] at HS
    have HS2 : Hid (Calls Tryz.prog 61 #[.pointer (some ⟨br, 0, none⟩), .string s] w fun e w' => e = .returned (.tuple #[.int .i64 (idx s.data.toList a.fs : Nat), .bool true]) ∧ Below w.heap.size w w') := HS.out
    have hsp := spot_some hr hg
    have hil : idx s.data.toList a.fs < its.length := by rw [← hfl]; exact (List.getElem?_eq_some_iff.1 hsp).1
    have HH : Hid (Seen w br a its aL cL) := h
    clear HS h
    go_enter Tryz.func40, Tryz.ntmps40
    go_wp2_with fail
    refine HS2.out.mono ?_
    rintro e w1 ⟨rfl, b1⟩
    have h1 := HH.out.below b1
    obtain ⟨b, off, x, rfl, hx, hfx, f0, f1, _, ho⟩ := h1.file hil
    rw [hsp] at hfx
    have hy : y.b = x.b := by
      have := Option.some.inj hfx
      simp only [Prod.mk.injEq] at this
      rw [this.2]
    obtain ⟨ax, cx, ev, hby, hnil⟩ := own_src ho
    rw [ev] at f1
    have c1 := h1.c1
    have hxl : x.b.length ≤ 1073741824 := by
      have := total_take a.fs _ _ hsp
      have h2 := total_take_le a.fs (idx s.data.toList a.fs + 1)
      rw [hy] at this
      omega
    have HE : Hid (∀ v W, Own W w.heap.size v x.b → Told W w.heap.size v 0 (some y)) := fun v W o => ⟨by rw [hy]; exact o, rfl⟩
    have s1 := b1.size
    have HB : Hid (Byt (w1.alloc (.cells #[] 5)) ax x.b) := hby.below ((Below.refl _ _).alloc (Nat.le_refl _) _)
    have oe : Hid (Own (w1.alloc (.cells #[] 5)) w.heap.size (.slice (some ⟨w1.heap.size, 0, none⟩) 0 0) []) := own_empty w1 _ s1
    have b0 : Below w.heap.size w (w1.alloc (.cells #[] 5)) := b1.alloc s1 _
    have hbl := cell_lt f1
    have hbr := cell_lt c1
    clear h1 HH HS2 ho hfx hsp hr hfl hx f0 ev b1 hby
    generalize idx s.data.toList a.fs = i at *
    go_wp2_with (at_builtin; go_must (refine app_at rfl (.tmp 16) (.tmp 24) rfl w.heap.size _ [] rfl oe.out ax _ cx x.b rfl rfl HB.out hnil (by simp; omega) (by simp; omega) ?_))
    intro v1 w2 o1 g1 _
    have b2 := below_app b0 (by simp; omega) oe.out g1
    obtain ⟨av, cv, rfl, _⟩ := o1.shape
    clear g1 b0 oe HB
    go_wp2
    go_ret2
    exact ⟨_, _, rfl, HE.out _ _ o1, b2⟩
set_option maxHeartbeats 1000000 in
theorem rnew_bad (room : Int) (w : World) (h : room < 0 ∨ 1073741824 < room) : Calls Tryz.prog 7 #[.int .i64 room] w fun e w' => e = .returned (.tuple #[.pointer none, .int .i64 1]) ∧ w' = w := by
  by_cases h0 : room < 0
  · go_enter Tryz.func7, Tryz.ntmps7
    go_wp2
    go_ret2
    exact ⟨rfl, rfl⟩
  · have h1 : 1073741824 < room := h.resolve_left h0
    clear h
    go_enter Tryz.func7, Tryz.ntmps7
    go_wp2
    go_ret2
    exact ⟨rfl, rfl⟩
set_option maxHeartbeats 1000000 in
theorem rnew_any (room : Int) (w : World) (h0 : 0 ≤ room) (h1 : room ≤ 1073741824) : Calls Tryz.prog 7 #[.int .i64 room] w fun e w' => ∃ br R, e = .returned (.tuple #[.pointer (some ⟨br, 0, none⟩), .int .i64 0]) ∧ Ref w' br R ⟨room, -1, []⟩ ∧ (∀ i, R i → w.heap.size ≤ i) ∧ Below w.heap.size w w' := by
  have HF : Hid (Ref (w.alloc (.cells #[.int .i64 room, .slice none 0 0, .int .i64 (-1)] 52)) w.heap.size (fun i => i = w.heap.size ∨ (Value.slice none 0 0).ownBlock = some i ∨ ∃ x ∈ ([] : List It), x.v.ownBlock = some i) ⟨room, -1, []⟩) :=
    ⟨.slice none 0 0, [], blk_new w 52 [.int .i64 room, .slice none 0 0, .int .i64 (-1)], ⟨rfl, .inl ⟨rfl, rfl⟩⟩, (fun x hx => by cases hx), rfl, rfl⟩
  go_enter Tryz.func7, Tryz.ntmps7
  go_wp2
  go_ret2
  refine ⟨_, _, rfl, HF.out, ?_, (Below.refl _ _).alloc (Nat.le_refl _) _⟩
  rintro i (rfl | h | ⟨x, hx, _⟩)
  · exact Nat.le_refl _
  · cases h
  · cases hx
theorem run_max {P : Program} (ats : Array TypeId) (ty : TypeId) (x y : Int) (W : World) : (Builtin.max_ ats ty #[.int .i64 x, .int .i64 y]).run P W = .ok (.int .i64 (if x < y then y else x)) W := by
  simp [Builtin.max_, Builtin.max2]
set_option maxHeartbeats 1000000 in
theorem rfuse_any {w : World} {br : Nat} {R : Nat → Prop} {a : Ab} (h : Ref w br R a) (n : Int) :
    Calls Tryz.prog 38 #[.pointer (some ⟨br, 0, none⟩), .int .i64 n] w fun e w' => e = .returned (.tuple #[]) ∧ Ref w' br R ⟨a.room, max n (-1), a.fs⟩ ∧ Went w w' R R := by
  obtain ⟨its, aL, cL, hs⟩ := h.seen
  have c2 := hs.c2
  have z2 := h.frozen 2
  have hmx := @run_max Tryz.prog
  have hv : (if (-1 : Int) < n then n else -1) = max n (-1) := by
    split <;> omega
  have HR : Hid (Ref (w.setCell ⟨br, 2, none⟩ (.int .i64 (max n (-1)))) br R ⟨a.room, max n (-1), a.fs⟩ ∧ Went w (w.setCell ⟨br, 2, none⟩ (.int .i64 (max n (-1)))) R R) :=
    ⟨h.setFuse _, Went.of_kept (Kept.setCell (S := fun i => i = br) w ⟨br, 2, none⟩ _ rfl) (fun i _ e => e ▸ h.br_in)⟩
  generalize max n (-1) = m at *
  clear h hs
  go_enter Tryz.func38, Tryz.ntmps38
  go_wp2
  go_end0
  exact ⟨rfl, HR.out⟩
end Go.Proofs.YtmpnceicodfifaaGreat
