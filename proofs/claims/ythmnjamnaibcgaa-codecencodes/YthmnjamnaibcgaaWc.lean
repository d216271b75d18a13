/-
  codec's appendValue at decimals.
-/
import Derived.Test.YthmnjamnaibcgaaWb
import Derived.Test.YthmnjamnaibcgaaOru
namespace Go.Proofs.Ythmnjamnaibcgaa
open Go.RowKit Math
set_option linter.unusedVariables false
set_option maxRecDepth 8000 in
theorem av_4 (n : Int) (t : ByteArray) (na : Option Addr) (nl nc : Nat) (ka : Option Addr) (kl kc : Nat) (ax : Option Addr) (c : Nat) (l : List Nat) (hl : l.length ≤ 65536) (n0 : -9223372036854775808 ≤ n) (n1 : n < 9223372036854775808) (q : Nat) (hq : q < 256) (B : Nat) (W : World) (ho : Own W B (.slice ax l.length c) l) (hB : B ≤ W.heap.size) :
    Calls Try.prog 14 #[.slice ax l.length c, .agg #[.int .i64 4, .int .i64 n, .int .i64 (q : Int), .string t, .slice na nl nc, .slice ka kl kc]] W fun e w' => ∃ v', e = .returned v' ∧ Ap B W w' (.slice ax l.length c) v' (l ++ 4 :: (uv (zigS n).toNat ++ [q])) := by
  have h1 : decide ((65536 : Int) < (l.length : Int)) = false := by simp; omega
  have hb0 : Below W.heap.size W (W.alloc (.cells #[.int .i64 4, .int .i64 n, .int .i64 (q : Int), .string t, .slice na nl nc, .slice ka kl kc] 25)) := (Below.refl _ _).alloc (Nat.le_refl _) _
  have HO : Hid (Own (W.alloc (.cells #[.int .i64 4, .int .i64 n, .int .i64 (q : Int), .string t, .slice na nl nc, .slice ka kl kc] 25)) B (.slice ax l.length c) l) := ho.alloc _
  have HX : Hid (Blk (W.alloc (.cells #[.int .i64 4, .int .i64 n, .int .i64 (q : Int), .string t, .slice na nl nc, .slice ka kl kc] 25)) W.heap.size 25 [.int .i64 4, .int .i64 n, .int .i64 (q : Int), .string t, .slice na nl nc, .slice ka kl kc]) := blk_new W 25 [.int .i64 4, .int .i64 n, .int .i64 (q : Int), .string t, .slice na nl nc, .slice ka kl kc]
  have HN : Hid ((Value.slice ax l.length c).ownBlock ≠ some W.heap.size) := ho.ne
  have HB0 : Hid (Below W.heap.size W (W.alloc (.cells #[.int .i64 4, .int .i64 n, .int .i64 (q : Int), .string t, .slice na nl nc, .slice ka kl kc] 25))) := hb0
  have hz : B ≤ (W.alloc (.cells #[.int .i64 4, .int .i64 n, .int .i64 (q : Int), .string t, .slice na nl nc, .slice ka kl kc] 25)).heap.size := by simp; omega
  have HZ : Hid ((W.alloc (.cells #[.int .i64 4, .int .i64 n, .int .i64 (q : Int), .string t, .slice na nl nc, .slice ka kl kc] 25)).heap.size = W.heap.size + 1) := by show _ = _; simp
  clear ho hb0
  go_enter Try.func14, Try.ntmps14
  go_wp2_with (at_builtin; go_must (generalize hWW : World.alloc W _ = W1 at *; refine ap_bytes rfl (.tmp 9) (.tmp 13) rfl B _ l rfl (HO.out.alloc _) _ _ _ [4] rfl rfl (byt_at W1 [4] _ HZ.out) (by simp) (by simp; omega) (by simp; omega) ?_))
  intro v1 w1 A1
  have HA : Hid (Ap B W1 w1 (.slice ax l.length c) v1 (l ++ [4])) := Ap.after ((Below.refl _ _).alloc (Nat.le_refl _) _) A1
  clear A1
  have hb1 : B ≤ w1.heap.size := Nat.le_trans hz HA.out.gr.size
  have HX1 : Hid (Blk w1 W.heap.size 25 [.int .i64 4, .int .i64 n, .int .i64 (q : Int), .string t, .slice na nl nc, .slice ka kl kc]) := HA.out.blk HX.out HN.out
  have HNE : Hid (v1.ownBlock ≠ some W.heap.size) := fun e => by
    rcases HA.out.ob _ e with h | h
    · exact HN.out h
    · rw [HZ.out] at h
      omega
  have HAW : Hid (Ap B W w1 (.slice ax l.length c) v1 (l ++ [4])) := Ap.after HB0.out HA.out
  clear HA HX HO HB0 hWW hz
  have c0 : w1.cell? ⟨W.heap.size, 0, none⟩ = some (.int .i64 4) := HX1.out.cell 0
  have hu := uv_ten _ (zig_nat n n0 n1).1
  go_wp2
  obtain ⟨C, hC⟩ : ∃ C : World → Prop, C = fun W' => Blk W' W.heap.size 25 [.int .i64 4, .int .i64 n, .int .i64 (q : Int), .string t, .slice na nl nc, .slice ka kl kc] := ⟨_, rfl⟩
  have C1 : Hid (∀ W', C W' → W'.cell? ⟨W.heap.size, 1, none⟩ = some (.int .i64 n)) := fun W' h => by rw [hC] at h; exact h.cell 1
  have C2 : Hid (∀ W', C W' → W'.cell? ⟨W.heap.size, 2, none⟩ = some (.int .i64 (q : Int))) := fun W' h => by rw [hC] at h; exact h.cell 2
  have CA : Hid (∀ W' W'' v v' l', C W' → Ap B W' W'' v v' l' → v.ownBlock ≠ some W.heap.size → C W'') := fun W' W'' v v' l' h A hne => by rw [hC] at h ⊢; exact A.blk h hne
  have CL : Hid (∀ W' o, C W' → C (W'.alloc o)) := fun W' o h => by rw [hC] at h ⊢; exact h.alloc o
  have C0 : Hid (C { w1 with drawn := w1.drawn + 1 }) := by rw [hC]; exact HX1.out
  have hW1 : W.heap.size < w1.heap.size := HX1.out.lt
  have D0 : Hid (Below w1.heap.size w1 { w1 with drawn := w1.drawn + 1 }) := Below.drew (Below.refl _ _)
  have HO1 : Hid (Own { w1 with drawn := w1.drawn + 1 } B v1 (l ++ [4])) := HAW.out.own.below D0.out
  have hsz : ({ w1 with drawn := w1.drawn + 1 } : World).heap.size = w1.heap.size := rfl
  clear hC HX1 c0
  refine region_calm C 9 (by kernel_rfl) ?_
  generalize ({ w1 with drawn := w1.drawn + 1 } : World) = v0 at *
  have hCp : ∀ p : Prop, (∀ W, C W → p) ↔ p := fun p => ⟨fun h => h _ C0.out, fun h _ _ => h⟩
  refine seg 4 [0, 1, 2, 4, 5, 6] rfl (by kernel_rfl) whole_blind C0.out (by kernel_rfl) ?_
  change wpQuiet _ _ _ _ (_ :: _ :: _ :: _ :: _ :: _ :: []) _
  repeat (first
    | go_big_quiet_skip
    | (go_big_quiet_want
       first
       | (refine q_one 3 (.inl rfl) (.tmp 34) rfl (W.heap.size) 1 rfl _ C1.out ?_
          simp only [Act.put, List.setIfInBounds_toArray, List.set_cons_zero, List.set_cons_succ]
          go_big_quiet_on)
       | (refine q_one 3 (.inl rfl) (.tmp 37) rfl (W.heap.size) 2 rfl _ C2.out ?_
          simp only [Act.put, List.setIfInBounds_toArray, List.set_cons_zero, List.set_cons_succ]
          go_big_quiet_on)
       | (go_big_quiet_op
          go_big_quiet_on)))
  refine wpQuiet_nil ?_
  refine two_do (i := 3) (j := 7) 3 rfl (by kernel_rfl) rfl (by rfl) rfl (by rfl) ?_ ?_
  · intro K hK
    refine oper_call 22 #[.tmp 33, .tmp 35] #[29, 3] rfl #[v1, .int .i64 n] (by rw [List.map_toArray]; rfl) (enters Try.func22 (by kernel_rfl) rfl) (fun v' w' => Ap B v0 w' v1 v' (l ++ [4] ++ uv (zigS n).toNat)) (apInt v1 (l ++ [4]) n n0 n1 B v0 (HO1.out) (by omega) (by simp; omega)) ?_
    intro v2 w3 A2
    have hs3 := A2.gr.size
    have hc3 := CA.out _ _ _ _ _ C0.out A2 HNE.out
    have hn3 : v2.ownBlock ≠ some W.heap.size := fun e => by
      rcases A2.ob _ e with h | h
      · exact HNE.out h
      · omega
    refine hK _ _ hc3 ?_
    simp only [Act.put, List.setIfInBounds_toArray, List.set_cons_zero, List.set_cons_succ]
    refine lone_do (i := 7) 2 rfl (by kernel_rfl) rfl (by rfl) ?_
    intro K hK
    refine oper_byte 39 rfl (q : Int) rfl ?_
    refine hK _ _ (CL.out _ _ hc3) ?_
    simp only [Act.put, List.setIfInBounds_toArray, List.set_cons_zero, List.set_cons_succ]
    refine lone_do (i := 8) 1 rfl (by kernel_rfl) rfl (by rfl) ?_
    intro K hK
    refine oper_apb (.tmp 36) (.tmp 40) rfl B v2 (l ++ [4] ++ uv (zigS n).toNat) rfl (A2.own.alloc _) _ _ _ [q] rfl rfl (byt_lit w3 [q]) (by simp) (by simp only [List.length_append, List.length_singleton]; omega) (by simp; omega) ?_
    intro v3 w5 A3
    have XA : Ap B W w5 (.slice ax l.length c) v3 (l ++ 4 :: (uv (zigS n).toNat ++ [q])) := by
      have := HAW.out.trans (Ap.after D0.out (A2.trans (Ap.after ((Below.refl _ _).alloc (Nat.le_refl _) _) A3)))
      simpa using this
    have HA3 : Hid _ := XA
    have hc5 := CA.out _ _ _ _ _ (CL.out _ _ hc3) A3 (hn3)
    clear A3 XA
    refine hK _ _ hc5 ?_
    simp only [Act.put, List.setIfInBounds_toArray, List.set_cons_zero, List.set_cons_succ]
    refine lone_calm (i := 9) 0 rfl (by kernel_rfl) rfl rfl hc5 ?_
    have hCq : ∀ p : Prop, (∀ W, C W → p) ↔ p := fun p => ⟨fun h => h _ hc5, fun h _ _ => h⟩
    go_big_quiet_want
    go_big_quiet_op
    go_big_quiet_on
    refine wpQuiet_nil ?_
    refine anyC_done (by kernel_rfl) ⟨rfl, ?_⟩
    clear hc5 hCq hCp
    go_wp2
    go_ret
    exact ⟨v3, rfl, HA3.out⟩
  · intro K hK
    refine oper_byte 39 rfl (q : Int) rfl ?_
    refine hK _ _ (CL.out _ _ C0.out) ?_
    simp only [Act.put, List.setIfInBounds_toArray, List.set_cons_zero, List.set_cons_succ]
    have hbq : Blk (v0.alloc (.cells #[.int .u8 (q : Int)] 5)) v0.heap.size 5 [.int .u8 (q : Int)] := blk_new v0 5 [.int .u8 (q : Int)]
    have hnq : v1.ownBlock ≠ some v0.heap.size := HO1.out.ne
    refine lone_do (i := 3) 2 rfl (by kernel_rfl) rfl (by rfl) ?_
    intro K hK
    refine oper_call 22 #[.tmp 33, .tmp 35] #[29, 3] rfl #[v1, .int .i64 n] (by rw [List.map_toArray]; rfl) (enters Try.func22 (by kernel_rfl) rfl) (fun v' w' => Ap B (v0.alloc (.cells #[.int .u8 (q : Int)] 5)) w' v1 v' (l ++ [4] ++ uv (zigS n).toNat)) (apInt v1 (l ++ [4]) n n0 n1 B (v0.alloc (.cells #[.int .u8 (q : Int)] 5)) (HO1.out.alloc _) (by simp; omega) (by simp; omega)) ?_
    intro v2 w3 A2
    have hs3 := A2.gr.size
    simp only [World.size_alloc] at hs3
    have hc3 := CA.out _ _ _ _ _ (CL.out _ _ C0.out) A2 HNE.out
    have hn3 : v2.ownBlock ≠ some W.heap.size := fun e => by
      rcases A2.ob _ e with h | h
      · exact HNE.out h
      · simp at h
        omega
    have hb3 : Byt w3 (some ⟨v0.heap.size, 0, none⟩) [q] := by
      have := A2.blk hbq hnq
      refine .inr ⟨_, _, rfl, fun i hi => ?_⟩
      have h0 : i = 0 := by simpa using hi
      subst h0
      rw [this.cell]
      rfl
    refine hK _ _ hc3 ?_
    simp only [Act.put, List.setIfInBounds_toArray, List.set_cons_zero, List.set_cons_succ]
    refine lone_do (i := 8) 1 rfl (by kernel_rfl) rfl (by rfl) ?_
    intro K hK
    refine oper_apb (.tmp 36) (.tmp 40) rfl B v2 (l ++ [4] ++ uv (zigS n).toNat) rfl (A2.own) _ _ _ [q] rfl rfl (hb3) (by simp) (by simp only [List.length_append, List.length_singleton]; omega) (by omega) ?_
    intro v3 w5 A3
    have XA : Ap B W w5 (.slice ax l.length c) v3 (l ++ 4 :: (uv (zigS n).toNat ++ [q])) := by
      have := HAW.out.trans (Ap.after D0.out (Ap.after ((Below.refl _ _).alloc (Nat.le_refl _) _) (A2.trans A3)))
      simpa using this
    have HA3 : Hid _ := XA
    have hc5 := CA.out _ _ _ _ _ (hc3) A3 (hn3)
    clear A3 XA
    refine hK _ _ hc5 ?_
    simp only [Act.put, List.setIfInBounds_toArray, List.set_cons_zero, List.set_cons_succ]
    refine lone_calm (i := 9) 0 rfl (by kernel_rfl) rfl rfl hc5 ?_
    have hCq : ∀ p : Prop, (∀ W, C W → p) ↔ p := fun p => ⟨fun h => h _ hc5, fun h _ _ => h⟩
    go_big_quiet_want
    go_big_quiet_op
    go_big_quiet_on
    refine wpQuiet_nil ?_
    refine anyC_done (by kernel_rfl) ⟨rfl, ?_⟩
    clear hc5 hCq hCp
    go_wp2
    go_ret
    exact ⟨v3, rfl, HA3.out⟩
end Go.Proofs.Ythmnjamnaibcgaa
