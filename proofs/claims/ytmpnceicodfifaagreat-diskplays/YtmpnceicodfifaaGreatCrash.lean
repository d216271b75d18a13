/-
  (*store).crash: whatever order the map is gone through in.
-/
import Derived.Test.YtmpnceicodfifaaGreatExt
namespace Go.Proofs.YtmpnceicodfifaaGreat
open Go.RowKit Go.Maps
theorem atKey_dat' (ix : List (Nm × Nat)) (nm : Nm) (z : DataW Unit) : (dat ix).atKey (.string nm) z = match get ix nm with | some f => .lit (.int .i64 (f : Int)) | none => z := by
  unfold dat DataW.atKey get
  simp only [find_ent]
  cases ix.find? (fun p => p.1 == nm) <;> rfl
theorem key9_inv {key : Value} {kl : Lit} (h : keyOf Tryz.prog 9 key = some kl) : ∃ s : ByteArray, key = .string s ∧ kl = .string s.data.toList := by
  obtain ⟨s, h1, h2, _⟩ := Go.WideMaps.string_of_keyOf Tryz.underlying9 h
  exact ⟨s, h1, h2⟩
theorem fileElem_ptr {v : Value} {y : DataW Unit × List MemPlace} (h : fileElem v = some y) : ∃ c, v = .pointer c := by
  unfold fileElem at h
  split at h
  · exact ⟨_, rfl⟩
  · exact ⟨_, rfl⟩
  · cases h
theorem snd_inj : ∀ {ix : List (Nm × Nat)} {p q : Nm × Nat}, (ix.map (·.2)).Nodup → p ∈ ix → q ∈ ix → p.2 = q.2 → p = q
  | a :: r, p, q, hn, hp, hq, e => by
    simp only [List.map_cons, List.nodup_cons] at hn
    rcases List.mem_cons.1 hp with rfl | hp'
    · rcases List.mem_cons.1 hq with rfl | hq'
      · rfl
      · exact absurd (List.mem_map.2 ⟨q, hq', e.symm⟩) hn.1
    · rcases List.mem_cons.1 hq with rfl | hq'
      · exact absurd (List.mem_map.2 ⟨p, hp', e⟩) hn.1
      · exact snd_inj hn.2 hp' hq' e
theorem fst_inj {α : Type} : ∀ {ix : List (Nm × α)} {p q : Nm × α}, (ix.map (·.1)).Nodup → p ∈ ix → q ∈ ix → p.1 = q.1 → p = q
  | a :: r, p, q, hn, hp, hq, e => by
    simp only [List.map_cons, List.nodup_cons] at hn
    rcases List.mem_cons.1 hp with rfl | hp'
    · rcases List.mem_cons.1 hq with rfl | hq'
      · rfl
      · exact absurd (List.mem_map.2 ⟨q, hq', e.symm⟩) hn.1
    · rcases List.mem_cons.1 hq with rfl | hq'
      · exact absurd (List.mem_map.2 ⟨p, hp', e⟩) hn.1
      · exact fst_inj hn.2 hp' hq' e
/-- No name stands twice. -/
theorem Inn.one {lk : Int} {w : World} {bs bm : Nat} {room used fuse : Int} {ix : List (Nm × Nat)} {ct : Nat → File} (h : Inn lk w bs bm room used fuse ix ct) : (ix.map (·.1)).Nodup := by
  obtain ⟨es, e, hp⟩ := h.map.tidy law9
  unfold dat at e
  injection e with e
  subst e
  unfold List.Nodup
  rw [List.pairwise_map] at hp ⊢
  exact hp.imp fun {a b} h1 h2 => h1 (by simp only [ent]; rw [h2])
/-- How many bytes a crash leaves of a file. -/
def spare (d : Nat) (x : File) : Nat := x.k + d % (x.b.length - x.k + 1)
theorem spare_le (d : Nat) (x : File) (h : x.k ≤ x.b.length) : spare d x ≤ x.b.length := by
  unfold spare
  have := Nat.mod_lt d (show 0 < x.b.length - x.k + 1 by omega)
  omega
/-- All bytes. -/
def tot (ix : List (Nm × Nat)) (ct : Nat → File) : Nat := (ix.map fun p => (ct p.2).b.length).sum
theorem tot_upd {ct : Nat → File} {f : Nat} (x : File) : ∀ {ix : List (Nm × Nat)}, (ix.map (·.2)).Nodup → f ∈ ix.map (·.2) → tot ix (upd ct f x) + (ct f).b.length = tot ix ct + x.b.length
  | [], _, h => by simp at h
  | p :: r, hn, hf => by
    simp only [List.map_cons, List.nodup_cons] at hn
    by_cases e : p.2 = f
    · have e2 : r.map (fun q => (upd ct f x q.2).b.length) = r.map fun q => (ct q.2).b.length := List.map_congr_left fun q hq => by
        rw [upd_other]
        intro e'
        exact hn.1 (by rw [e, ← e']; exact List.mem_map.2 ⟨q, hq, rfl⟩)
      unfold tot
      rw [List.map_cons, List.map_cons, List.sum_cons, List.sum_cons, e2, e, upd_same]
      omega
    · have hf' : f ∈ r.map (·.2) := by
        rw [List.map_cons, List.mem_cons] at hf
        exact hf.resolve_left (fun e' => e e'.symm)
      have ih := tot_upd (ct := ct) x hn.2 hf'
      unfold tot at ih ⊢
      rw [List.map_cons, List.map_cons, List.sum_cons, List.sum_cons, upd_other e]
      omega
theorem le_tot {ct : Nat → File} : ∀ {ix : List (Nm × Nat)} {p : Nm × Nat}, p ∈ ix → (ct p.2).b.length ≤ tot ix ct
  | q :: r, p, h => by
    unfold tot
    rw [List.map_cons, List.sum_cons]
    rcases List.mem_cons.1 h with rfl | h
    · omega
    · have := le_tot (ct := ct) h
      unfold tot at this
      omega
theorem ranges_blocks {w w' : World} {bm r n cnt : Nat} {D : DataW Unit} {left : Lit → Bool} (h : w.ranges Tryz.prog 9 fileElem bm r n D left cnt) (hb : w'.heap[bm]? = w.heap[bm]?) (hr : w'.heap[r]? = w.heap[r]?) : w'.ranges Tryz.prog 9 fileElem bm r n D left cnt := by
  obtain ⟨es, clock, since, seen, c0, h1, F, hs, hD, h2, rest⟩ := h
  exact ⟨es, clock, since, seen, c0, hb.trans h1, F, hs, hD, hr.trans h2, rest⟩
theorem ranges_foot {lk : Int} {w : World} {bs bm r n cnt : Nat} {room used fuse : Int} {ix : List (Nm × Nat)} {ct : Nat → File} {D : DataW Unit} {left : Lit → Bool} (h : w.ranges Tryz.prog 9 fileElem bm r n D left cnt) (hi : Inn lk w bs bm room used fuse ix ct) : ¬ foot bs bm ix ct r := by
  have hne := h.ne
  obtain ⟨es, clock, since, seen, c0, h1, F, hs, hD, h2, rest⟩ := h
  have nb : ∀ {t vs}, ¬ Blk w r t vs := fun hb => by unfold Blk at hb; rw [h2] at hb; cases hb
  rintro (rfl | e | ⟨p, hp, rfl | e⟩)
  · exact nb hi.blk
  · exact hne e
  · exact nb (hi.file p hp)
  · obtain ⟨_, hv⟩ := (hi.row p hp).blk e
    exact nb hv
/-- A step of the loop over the map of files. -/
theorem next_files {ops : Array Oper} {rest : List Oper} {o : Oper} {a : Act} {Q : Exit → Act → World → Prop} {w : World} (hg : o.guard = none) (it : Operand) (hop : o.op = Op.next it false) (bm r n cnt : Nat) (ix : List (Nm × Nat)) (left : Lit → Bool)
    (hit : a.eval it = .pointer (some ⟨r, 0, none⟩)) (h : w.ranges Tryz.prog 9 fileElem bm r n (dat ix) left cnt)
    (hDone : Hid (∀ kl, left kl = false) → wpList Tryz.prog ops Q rest (a.put o.dst (.tuple #[.bool false])) w)
    (hMore : ∀ (x : ByteArray) (f : Nat) (w1 : World) (cnt1 : Nat), Hid (get ix x.data.toList = some f ∧ left (.string x.data.toList) = true ∧ w1.ranges Tryz.prog 9 fileElem bm r n (dat ix) (fun z => left z && !z.sameKey (.string x.data.toList)) cnt1 ∧ cnt1 < cnt ∧ w.grownBy w1 (some r)) →
      (Instr.entry (.pointer (some ⟨r, 0, none⟩))).run Tryz.prog w1 = .ok (.tuple #[.string x, .pointer (some ⟨f, 0, none⟩)]) w1 → wpList Tryz.prog ops Q rest (a.put o.dst (.tuple #[.bool true, .string x, .pointer (some ⟨f, 0, none⟩)])) w1) :
    wpList Tryz.prog ops Q (o :: rest) a w := by
  refine wpList_next_ranges _ hg it hop 9 law9 fileElem Value.string Value.pointer (fun key kl hkey => by obtain ⟨x, rfl, _⟩ := key9_inv hkey; exact ⟨x, rfl⟩) (fun v y hv => fileElem_ptr hv) bm r n _ _ _ hit h (fun _ h0 => hDone h0) ?_
  intro x c kl y w1 cnt1 hkx hlx hyv hat hrg1 hlt hg1 hs1 hen
  obtain ⟨x', e1, rfl⟩ := key9_inv hkx
  injection e1 with e1
  subst e1
  obtain ⟨f, hg⟩ : ∃ f, get ix x.data.toList = some f := by
    cases e : get ix x.data.toList with
    | some f => exact ⟨f, rfl⟩
    | none =>
      have h1 := hat (.lit (.bool true))
      have h2 := hat (.lit (.bool false))
      rw [atKey_dat', e] at h1 h2
      rw [← h1] at h2
      simp at h2
  have hyf : y.1 = .lit (.int .i64 (f : Int)) := by rw [← hat .nil, atKey_dat', hg]
  obtain ⟨y1, y2⟩ := y
  simp only at hyf
  subst hyf
  have hcf := fileElem_inv hyv
  injection hcf with hcf
  subst hcf
  exact hMore x f w1 cnt1 ⟨hg, hlx, hrg1, hlt, hg1⟩ hen
/-- What a crash has done so far. -/
def Crashed (d : Nat) (ct ct' : Nat → File) (p : Nm × Nat) : Prop := (ct' p.2).b = (ct p.2).b.take (spare d (ct p.2)) ∧ (ct' p.2).k = spare d (ct p.2)
set_option maxHeartbeats 2000000 in
set_option maxRecDepth 100000 in
theorem crash_any {lk : Int} {w : World} {bs bm : Nat} {room fuse : Int} {ix : List (Nm × Nat)} {ct : Nat → File} (h : Inn lk w bs bm room (tot ix ct) fuse ix ct) (d : Nat) (hk : ∀ p ∈ ix, (ct p.2).k ≤ (ct p.2).b.length) (ht : tot ix ct ≤ 1073741824) :
    Calls Tryz.prog 25 #[.pointer (some ⟨bs, 0, none⟩), .int .i64 (d : Int)] w fun e w' => e = .returned (.tuple #[]) ∧ ∃ ct', Inn lk w' bs bm room (tot ix ct') (-1) ix ct' ∧ Step w w' bs bm ix ct ix ct' ∧ ∀ p ∈ ix, Crashed d ct ct' p := by
  have c5 : w.cell? ⟨bs, 5, none⟩ = some (.map (some bm)) := h.blk.cell 5
  have HH : Hid (Inn lk w bs bm room (tot ix ct) fuse ix ct) := h
  have HK : Hid (∀ p ∈ ix, (ct p.2).k ≤ (ct p.2).b.length) := hk
  clear h hk
  go_enter Tryz.func25, Tryz.ntmps25
  go_wp2_with (at_range; refine wpList_range_own _ rfl _ 82 rfl 9 74 law9 Tryz.underlying82 _ bm ix.length _ rfl HH.out.map ?_; intro w0 hrg0 hg0 hs0)
  go_frame
  go_loopw [5] (fun _ wr => ∃ (left : Lit → Bool) (cnt : Nat) (ct' : Nat → File), wr.ranges Tryz.prog 9 fileElem bm w.heap.size ix.length (dat ix) left cnt ∧ Inn lk wr bs bm room (tot ix ct') fuse ix ct' ∧ Step w wr bs bm ix ct ix ct' ∧ tot ix ct' ≤ tot ix ct ∧ ∀ p ∈ ix, if left (.string p.1) = true then ct' p.2 = ct p.2 else Crashed d ct ct' p)
    (fun _ wr => wr.rangeLeft bm w.heap.size)
  case atStart =>
    refine ⟨_, _, ct, hrg0, HH.out.keptBy (Kept.of_grown (S := fun _ => False) hg0 (by simp)) (fun _ _ h => h), Step.of_kept (Kept.of_grown (S := fun _ => False) hg0 (by simp)) (fun _ _ h => h.elim), Nat.le_refl _, fun p hp => ?_⟩
    rw [if_pos]
    unfold dat
    rw [Maps.has_eq, List.any_eq_true]
    exact ⟨ent p, List.mem_map.2 ⟨p, hp, rfl⟩, by simp [ent, Lit.sameKey]⟩
  case round =>
    obtain ⟨left, cnt, ct', hrg, hin, hst, htt, hcr⟩ := hrel
    have HI : Hid (Inn lk wr bs bm room (tot ix ct') fuse ix ct') := hin
    have HS : Hid (Step w wr bs bm ix ct ix ct') := hst
    have HC : Hid (∀ p ∈ ix, if left (.string p.1) = true then ct' p.2 = ct p.2 else Crashed d ct ct' p) := hcr
    clear hin hst hcr
    go_wp2_with (at_next; refine next_files rfl _ rfl bm w.heap.size ix.length cnt ix left rfl hrg ?_ ?_)
    · intro HL
      have c4 : wr.cell? ⟨bs, 4, none⟩ = some (.int .i64 fuse) := HI.out.blk.cell 4
      have z4 : wr.frozen? ⟨bs, 4, none⟩ = false := HI.out.blk.frozen 4
      clear hrg hrg0 c5
      go_wp2
      go_end0
      refine ⟨rfl, ct', HI.out.set 4 _ rfl, ⟨HS.out.kept.trans (Kept.setCell (S := fun i => i = bs) wr ⟨bs, 4, none⟩ _ rfl) (fun _ _ e => .inl e), HS.out.new⟩, fun p hp => ?_⟩
      have := HC.out p hp
      rw [HL.out] at this
      simpa using this
    · intro x f w1 cnt1 HM hen
      obtain ⟨hg, hlx, hrg1, hlt, hg1⟩ := HM.out
      have hnr := ranges_foot hrg HI.out
      have kr : Kept (fun i => i = w.heap.size) wr w1 := Kept.of_grown hg1 (fun i e => by cases e; rfl)
      have i1 : Inn lk w1 bs bm room (tot ix ct') fuse ix ct' := HI.out.keptBy kr (fun i hi e => hnr (e ▸ hi))
      have hnr1 := ranges_foot hrg1 i1
      have s1 : Step w w1 bs bm ix ct ix ct' := ⟨HS.out.kept.trans kr (fun i hi e => by omega), HS.out.new⟩
      have hf := mem_of_get hg
      have hold := HC.out _ hf
      simp only [hlx, if_true] at hold
      have hkf := HK.out _ hf
      simp only at hkf
      have hlf := le_tot (ct := ct') hf
      simp only at hlf
      obtain ⟨a, cc, ev, hc, hn, B, O⟩ := i1.see hf
      have hsp := spare_le d (ct f) hkf
      have HP : Hid (Calls Tryz.prog 58 #[.pointer (some ⟨f, 0, none⟩), .int .i64 (d : Int)] w1 fun e w' => e = .returned (.int .i64 ((spare d (ct f) : Nat) : Int)) ∧ ∃ q, w' = w1.drewN q) := by
        have := spared_any f (ct' f).b.length cc (ct' f).k d a w1 (B.cell 0) (B.cell 1) (by omega) (by rw [hold]; exact hkf)
        rw [hold] at this
        exact this
      -- the rest of the round, in one contract: the file is cut, and all of it lasts
      have HQ : Hid (∀ q, Calls Tryz.prog 57 #[.pointer (some ⟨bs, 0, none⟩), .pointer (some ⟨f, 0, none⟩), .int .i64 ((spare d (ct f) : Nat) : Int)] (w1.drewN q) fun e w2 => e = .returned (.tuple #[]) ∧ Hid (Calls Tryz.prog 59 #[.pointer (some ⟨f, 0, none⟩)] w2 fun e w3 => e = .returned (.tuple #[]) ∧ Hid (
          ∃ ct2, w3.ranges Tryz.prog 9 fileElem bm w.heap.size ix.length (dat ix) (fun z => left z && !z.sameKey (.string x.data.toList)) cnt1 ∧ Inn lk w3 bs bm room (tot ix ct2) fuse ix ct2 ∧ Step w w3 bs bm ix ct ix ct2 ∧ tot ix ct2 ≤ tot ix ct ∧
            ∀ p ∈ ix, if (left (.string p.1) && !(Lit.string p.1).sameKey (.string x.data.toList)) = true then ct2 p.2 = ct p.2 else Crashed d ct ct2 p))) := by
        intro q
        refine (scut_any (i1.drewN q) hf (spare d (ct f)) (by rw [hold]; exact hsp) (by omega) (by omega) (by omega)).mono ?_
        rintro e w2 ⟨rfl, v, i2, s2, m2⟩
        refine ⟨rfl, ?_⟩
        have hlen : (upd ct' f ⟨v, (ct' f).b.take (spare d (ct f)), min (ct' f).k (spare d (ct f))⟩ f).b.length = spare d (ct f) := by
          rw [upd_same, hold, List.length_take]; omega
        refine (fsyncd_any i2 hf (by rw [hlen]; rw [hold] at hlf; omega)).mono ?_
        rintro e w3 ⟨rfl, i3, s3, m3⟩
        rw [hlen] at i3 s3
        rw [upd_same, upd_upd] at i3 s3
        have ht3 := tot_upd (ct := ct') ⟨v, (ct' f).b.take (spare d (ct f)), spare d (ct f)⟩ i1.two (List.mem_map.2 ⟨_, hf, rfl⟩)
        have hlt3 : ((ct' f).b.take (spare d (ct f))).length = spare d (ct f) := by rw [hold, List.length_take]; omega
        simp only [hlt3] at ht3
        have hL : (ct' f).b.length = (ct f).b.length := by rw [hold]
        have s13 := (Step.trans s1 (Step.drewN q)).trans (s2.trans s3)
        refine ⟨rfl, upd ct' f ⟨v, (ct' f).b.take (spare d (ct f)), spare d (ct f)⟩, ?_, ?_, s13, by omega, fun p hp => ?_⟩
        · exact ranges_blocks hrg1 (m3.trans m2) ((s2.trans s3).kept.block w.heap.size hrg1.lt hnr1)
        · have e1 : ((tot ix (upd ct' f ⟨v, (ct' f).b.take (spare d (ct f)), spare d (ct f)⟩) : Nat) : Int) = (tot ix ct' : Int) - (((ct' f).b.length : Int) - (spare d (ct f) : Int)) := by omega
          rw [e1]
          exact i3
        · by_cases e : p.2 = f
          · have e' : p.1 = x.data.toList := congrArg Prod.fst (snd_inj i1.two hp hf e)
            rw [e']
            have : (Lit.string x.data.toList).sameKey (.string x.data.toList) = true := by simp [Lit.sameKey]
            rw [this]
            simp only [Bool.not_true, Bool.and_false, Bool.false_eq_true, if_false]
            unfold Crashed
            rw [e, upd_same, hold]
            exact ⟨rfl, rfl⟩
          · have e' : (Lit.string p.1).sameKey (.string x.data.toList) = false := by
              have : p.1 ≠ x.data.toList := fun h1 => e (congrArg Prod.snd (fst_inj i1.one hp hf h1))
              simpa [Lit.sameKey] using this
            rw [e']
            have := HC.out p hp
            unfold Crashed at this ⊢
            rw [upd_other e]
            simpa using this
      have hml := hrg.left_eq
      clear HM hrg1 hg1 hrg hrg0 B O HI HS HC i1 s1 kr
      go_wp2_with (first
        | (go_at_call 58; refine HP.out.mono ?_; rintro e w' ⟨rfl, q, rfl⟩)
        | (go_at_call 57; refine (HQ.out q).mono ?_; rintro e w2 ⟨rfl, HR⟩)
        | (go_at_call 59; refine HR.out.mono ?_; rintro e w3 ⟨rfl, HT⟩))
      obtain ⟨ct2, t1, t2, t3, t4, t5⟩ := HT.out
      have hm3 := t1.left_eq
      go_roundw
      case rel => exact ⟨_, cnt1, ct2, t1, t2, t3, t4, t5⟩
      case measure => rw [hm3, hml]; exact hlt
#print axioms crash_any
end Go.Proofs.YtmpnceicodfifaaGreat
