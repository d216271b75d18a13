/-
  (*store).copied: what the copy is made of.
-/
import Derived.Test.YtmpnceicodfifaaGreatRcp
namespace Go.Proofs.YtmpnceicodfifaaGreat
open Go.RowKit Go.Maps
set_option linter.unusedVariables false
theorem ris_ext {α : Type} : ∀ {fs gs : List (Nm × α)}, Ris fs → Ris gs → (∀ p, p ∈ fs ↔ p ∈ gs) → fs = gs
  | [], [], _, _, _ => rfl
  | [], q :: s, _, _, h => by have := (h q).2 (by simp); simp at this
  | p :: r, [], _, _, h => by have := (h p).1 (by simp); simp at this
  | p :: r, q :: s, hf, hg, h => by
    have e : p = q := by
      rcases List.mem_cons.1 ((h p).1 (by simp)) with e | e
      · exact e
      · rcases List.mem_cons.1 ((h q).2 (by simp)) with e2 | e2
        · exact e2.symm
        · have h1 := ris_head hg p e
          have h2 := ris_head hf q e2
          rw [asym h1] at h2; cases h2
    subst e
    refine congrArg (p :: ·) (ris_ext (ris_tail hf) (ris_tail hg) fun z => ⟨fun hz => ?_, fun hz => ?_⟩)
    · rcases List.mem_cons.1 ((h z).1 (by simp [hz])) with e | e
      · have := ris_head hf z hz; rw [e, irr] at this; cases this
      · exact e
    · rcases List.mem_cons.1 ((h z).2 (by simp [hz])) with e | e
      · have := ris_head hg z hz; rw [e, irr] at this; cases this
      · exact e
/-- A file with bytes of its own is laid under a name that is not there. -/
theorem Inn.file_lay {lk : Int} {w w' : World} {bs bm : Nat} {room used fuse : Int} {ix : List (Nm × Nat)} {ct : Nat → File} (h : Inn lk w bs bm room used fuse ix ct) {nm : Nm} {f : Nat} (x : File) (hg : get ix nm = none) (hold : ∀ p ∈ ix, p.2 ≠ f) (hk : Kept (fun i => i = bm) w w')
    (hm : w'.ownsMap Tryz.prog 9 fileElem bm (ix.length + 1) ((dat ix).put (.string nm) (.lit (.int .i64 (f : Int)))))
    (hb : Blk w' f 86 [x.v, .int .u32 (x.k : Int)]) (ho : Own w' 0 x.v x.b) (hl : ∀ p ∈ ix, ∀ g, x.v.ownBlock = some g → (ct p.2).v.ownBlock ≠ some g) : Inn lk w' bs bm room used fuse (ins (nm, f) ix) (upd ct f x) := by
  rw [put_dat, del_of_none hg] at hm
  refine ⟨h.blk.keptBy hk (fun e => ownsMap_ne h.map h.blk e), by rw [length_ins]; exact hm, fun p hp => ?_, fun p hp => ?_, ?_, fun p hp q hq hpq g hg => ?_⟩
  · rcases mem_ins.1 hp with rfl | hp
    · rw [upd_same]; exact hb
    · rw [upd_other (hold p hp)]
      exact (h.file p hp).keptBy hk (h.file_ne hp).2
  · rcases mem_ins.1 hp with rfl | hp
    · rw [upd_same]; exact ho
    · rw [upd_other (hold p hp)]
      exact (h.row p hp).keptBy hk (fun g hg => (h.row_ne hp hg).2.1)
  · refine ((perm_ins (nm, f) ix).map (·.2)).nodup_iff.2 (List.nodup_cons.2 ⟨?_, h.two⟩)
    intro hm
    obtain ⟨p, hp, e⟩ := List.mem_map.1 hm
    exact hold p hp e
  · rcases mem_ins.1 hp with rfl | hp
    · rw [upd_same] at hg
      rcases mem_ins.1 hq with rfl | hq
      · exact (hpq rfl).elim
      · rw [upd_other (hold q hq)]
        exact hl q hq g hg
    · rw [upd_other (hold p hp)] at hg
      rcases mem_ins.1 hq with rfl | hq
      · rw [upd_same]; exact fun e => hl p hp g e hg
      · rw [upd_other (hold q hq)]
        exact h.apart p hp q hq hpq g hg
theorem foot_lay {bs bm : Nat} {ix : List (Nm × Nat)} {ct : Nat → File} {nm : Nm} {f : Nat} {x : File} (hold : ∀ p ∈ ix, p.2 ≠ f) {i : Nat} (h : foot bs bm (ins (nm, f) ix) (upd ct f x) i) : foot bs bm ix ct i ∨ i = f ∨ x.v.ownBlock = some i := by
  rcases h with e | e | ⟨p, hp, e | e⟩
  · exact .inl (.inl e)
  · exact .inl (.inr (.inl e))
  · rcases mem_ins.1 hp with rfl | hp
    · exact .inr (.inl e)
    · exact .inl (.inr (.inr ⟨p, hp, .inl e⟩))
  · rcases mem_ins.1 hp with rfl | hp
    · rw [upd_same] at e; exact .inr (.inr e)
    · rw [upd_other (hold p hp)] at e; exact .inl (.inr (.inr ⟨p, hp, .inr e⟩))
/-- A step of the loop over the map of files, with the key. -/
theorem next_keys {ops : Array Oper} {rest : List Oper} {o : Oper} {a : Act} {Q : Exit → Act → World → Prop} {w : World} (hg : o.guard = none) (it : Operand) (hop : o.op = Op.next it false) (bm r n cnt : Nat) (ix : List (Nm × Nat)) (left : Lit → Bool)
    (hit : a.eval it = .pointer (some ⟨r, 0, none⟩)) (h : w.ranges Tryz.prog 9 fileElem bm r n (dat ix) left cnt)
    (hDone : Hid (∀ kl, left kl = false) → wpList Tryz.prog ops Q rest (a.put o.dst (.tuple #[.bool false])) w)
    (hMore : ∀ (x : ByteArray) (f : Nat) (w1 : World) (cnt1 : Nat), Hid (keyOf Tryz.prog 9 (.string x) = some (.string x.data.toList) ∧ get ix x.data.toList = some f ∧ left (.string x.data.toList) = true ∧ w1.ranges Tryz.prog 9 fileElem bm r n (dat ix) (fun z => left z && !z.sameKey (.string x.data.toList)) cnt1 ∧ cnt1 < cnt ∧ w.grownBy w1 (some r)) →
      (Instr.entry (.pointer (some ⟨r, 0, none⟩))).run Tryz.prog w1 = .ok (.tuple #[.string x, .pointer (some ⟨f, 0, none⟩)]) w1 → wpList Tryz.prog ops Q rest (a.put o.dst (.tuple #[.bool true, .string x, .pointer (some ⟨f, 0, none⟩)])) w1) :
    wpList Tryz.prog ops Q (o :: rest) a w := by
  refine wpList_next_ranges _ hg it hop 9 law9 fileElem Value.string Value.pointer (fun key kl hkey => by obtain ⟨x, rfl, _⟩ := key9_inv hkey; exact ⟨x, rfl⟩) (fun v y hv => fileElem_ptr hv) bm r n _ _ _ hit h (fun _ h0 => hDone h0) ?_
  intro x c kl y w1 cnt1 hkx hlx hyv hat hrg1 hlt hg1 hs1 hen
  have hkx' := hkx
  obtain ⟨x', e1, rfl⟩ := key9_inv hkx
  injection e1 with e1
  subst e1
  obtain ⟨f, hg⟩ : ∃ f, get ix x.data.toList = some f := by
    cases e : get ix x.data.toList with
    | some f => exact ⟨f, rfl⟩
    | none =>
      have h1 := hat (.lit (.bool true))
      have h2 := hat (.lit (.bool false))
      rw [atKey_dat', e] at h1 h2
      rw [← h1] at h2
      simp at h2
  have hyf : y.1 = .lit (.int .i64 (f : Int)) := by rw [← hat .nil, atKey_dat', hg]
  obtain ⟨y1, y2⟩ := y
  simp only at hyf
  subst hyf
  have hcf := fileElem_inv hyv
  injection hcf with hcf
  subst hcf
  exact hMore x f w1 cnt1 ⟨hkx', hg, hlx, hrg1, hlt, hg1⟩ hen
theorem oper_callv {o : Oper} {a : Act} {w : World} {K : Act → World → Prop} {Q : Exit → Act → World → Prop} (k : Nat) (xs : Array Operand) (ts : Array TypeId)
    (hop : o.op = Op.call { callee := Callee.value (Operand.func k), args := xs, argTypes := ts }) (args : Array Value) (hargs : xs.map a.eval = args)
    (hent : ∀ (args : Array Value) (w : World), (callFunc k args).run Tryz.prog w = .ok (.enter k args) w) (R : Value → World → Prop)
    (hc : Calls Tryz.prog k args w fun e w' => ∃ v, e = .returned v ∧ R v w') (hK : ∀ v w', R v w' → K (a.put o.dst v) w') : Oper.wp Tryz.prog o a w K Q := by
  unfold Oper.wp
  have : (execOp a.eval o).run Tryz.prog w = .ok (.enter k args) w := by
    simp [execOp, hop, resolve, invoke, Act.eval, hargs, hent, Deferred.ofValue]
  rw [this, Oper.upon_enter]
  refine hc.mono ?_
  rintro e w' ⟨v, rfl, hr⟩
  exact hK v w' hr
theorem oper_box86 {o : Oper} {K : Act → World → Prop} {Q : Exit → Act → World → Prop} {a : Act} {w : World} (x : Operand) (ho : o.op = .box 86 x) (p : Option Addr) (n c : Nat) (v : Int) (hx : a.eval x = .agg #[.slice p n c, .int .u32 v])
    (hK : K (a.put o.dst (.pointer (some ⟨w.heap.size, 0, none⟩))) (w.alloc (.cells #[.slice p n c, .int .u32 v] 86))) : Oper.wp Tryz.prog o a w K Q := by
  unfold Oper.wp execOp
  simp only [ho, hx]
  go_simp
  exact hK
theorem oper_mapUp {o : Oper} {K : Act → World → Prop} {Q : Exit → Act → World → Prop} {a : Act} {w w2 : World} (m k x : Operand) (ho : o.op = .mapUpdate 82 m k x) (vm vk vx : Value) (hm : a.eval m = vm) (hk : a.eval k = vk) (hx : a.eval x = vx) (hr : (Instr.mapUpdate 82 vm vk vx).run Tryz.prog w = .ok () w2)
    (hK : K (a.put o.dst undef) w2) : Oper.wp Tryz.prog o a w K Q := by
  unfold Oper.wp execOp
  simp only [ho, hm, hk, hx, hr, Sem.run_bind, Result.andThen_ok]
  go_simp
  exact hK
theorem q_loadm {C : World → Prop} {a : Act} {o : Oper} {K : Act → Prop} (x : Operand) (ho : o.op = .load 82 x) (b k : Nat) (hx : a.eval x = .pointer (some ⟨b, k, none⟩)) (m : Nat) (hS : ∀ w, C w → w.cell? ⟨b, k, none⟩ = some (.map (some m)))
    (hk : K (a.put o.dst (.map (some m)))) : o.quiet Tryz.prog a C K :=
  ⟨_, fun w hw => by
    have h := hS w hw
    unfold Oper.quietAt execOp
    simp only [ho, hx]
    go_simp, hk⟩
theorem q_loadu {C : World → Prop} {a : Act} {o : Oper} {K : Act → Prop} (x : Operand) (ho : o.op = .load 77 x) (b k : Nat) (hx : a.eval x = .pointer (some ⟨b, k, none⟩)) (v : Int) (hS : ∀ w, C w → w.cell? ⟨b, k, none⟩ = some (.int .u32 v))
    (hk : K (a.put o.dst (.int .u32 v))) : o.quiet Tryz.prog a C K :=
  ⟨_, fun w hw => by
    have h := hS w hw
    unfold Oper.quietAt execOp
    simp only [ho, hx]
    go_simp, hk⟩
theorem enters49 : ∀ (args : Array Value) (w : World), (callFunc 49 args).run Tryz.prog w = .ok (.enter 49 args) w := enters Tryz.func49 (by kernel_rfl) rfl
end Go.Proofs.YtmpnceicodfifaaGreat
