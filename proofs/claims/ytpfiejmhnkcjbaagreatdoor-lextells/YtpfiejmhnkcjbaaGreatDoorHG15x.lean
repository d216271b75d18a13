/-
   · 
-/
import Derived.Test.YtpfiejmhnkcjbaaGreatDoorHLyg
import Derived.Test.YtpfiejmhnkcjbaaGreatDoorHD6Shz
namespace Go.Proofs.YtpfiejmhnkcjbaaGreatDoor
set_option maxHeartbeats 2000000
set_option maxRecDepth 8000
open Go.RowKit Lx
set_option linter.unusedVariables false
set_option linter.unusedSimpArgs false
theorem lx_idc {C : World -> Prop} {a : Act} {o : Oper} {K : Act -> Prop} (x y : Operand) (ho : o.op = .index 9 x y) (s : ByteArray) (k c : Nat) (hx : a.eval x = .string s) (hy : a.eval y = .int .i64 (k : Int)) (hk1 : k < s.size) (hc : (bts s).getD k 0 = c)
 (hk : K (a.put o.dst (.int .u8 (c : Int)))) : o.quiet Tryz.prog a C K := lx_idx x y ho s k hx hy hk1 (by rw [hc]; exact hk)
theorem goesOn_any (s : ByteArray) (w : World) : Calls Tryz.prog 51 #[.string s] w fun e w' => e = .returned (.bool (folw (bts s))) /\ Hid (Below w.heap.size w w') := by
 by_cases h0 : s.size = 0
 . obtain rfl : s = ⟨#[]⟩ := ByteArray.ext (Array.eq_empty_of_size_eq_zero h0)
   go_enter Tryz.func51, Tryz.ntmps51
   obtain ⟨C, hC⟩ : ∃ C : World -> Prop, C = fun W => Below w.heap.size w W := ⟨_, rfl⟩
   have C0 : Hid (C { w with drawn := w.drawn + 1 }) := by rw [hC]; exact Below.drew (Below.refl _ _)
   have CO : Hid (∀ W, C W -> Below w.heap.size w W) := fun W h => by rw [hC] at h; exact h
   have hCp : ∀ p : Prop, (∀ W, C W -> p) ↔ p := fun p => ⟨fun h => h _ C0.out, fun h _ _ => h⟩
   clear hC
   go_wp2_with fail
   refine wp_region_quiet (C := C) (by kernel_rfl) (by kernel_rfl) C0.out ?_
   change wpQuiet _ _ _ _ (_ :: _ :: _ :: _ :: _ :: _ :: _ :: _ :: _ :: _ :: _ :: _ :: _ :: _ :: []) _
   repeat (first
    | go_big_quiet_skip
    | (go_big_quiet_want
       first
       | (go_big_quiet_op
          go_big_quiet_on)))
   refine wpQuiet_nil ?_
   intro w9 h9
   have HB9 : Hid (Below w.heap.size w w9) := CO.out _ h9
   clear h9 hCp C0 CO
   go_wp2
   go_ret
   exact ⟨rfl, HB9.out⟩
 . have hlt : 0 < s.size := by omega
   have e := bts_dropL s 0 hlt
   rw [List.drop_zero] at e
   have hem := em_iff s h0
   have hf : folw (bts s) = (isLt ((bts s).getD 0 0) || (bts s).getD 0 0 == 46) := by
    conv => lhs; rw [e]
    rfl
   have hoc := oct_getD s 0
   obtain ⟨c, hc⟩ : ∃ c, Hid ((bts s).getD 0 0 = c) := ⟨_, rfl⟩
   rw [hc.out] at e hf hoc
   by_cases h46 : c = 46
   . have hf2 : folw (bts s) = true := by rw [hf, h46]; rfl
     rw [hf2]
     have x46 : ((c : Int) == 46) = true := by rw [h46]; rfl
     clear hf hf2 e
     go_enter Tryz.func51, Tryz.ntmps51
     obtain ⟨C, hC⟩ : ∃ C : World -> Prop, C = fun W => Below w.heap.size w W := ⟨_, rfl⟩
     have C0 : Hid (C { w with drawn := w.drawn + 1 }) := by rw [hC]; exact Below.drew (Below.refl _ _)
     have CO : Hid (∀ W, C W -> Below w.heap.size w W) := fun W h => by rw [hC] at h; exact h
     have hCp : ∀ p : Prop, (∀ W, C W -> p) ↔ p := fun p => ⟨fun h => h _ C0.out, fun h _ _ => h⟩
     clear hC
     go_wp2_with fail
     refine wp_region_quiet (C := C) (by kernel_rfl) (by kernel_rfl) C0.out ?_
     change wpQuiet _ _ _ _ (_ :: _ :: _ :: _ :: _ :: _ :: _ :: _ :: _ :: _ :: _ :: _ :: _ :: _ :: []) _
     repeat (first
      | go_big_quiet_skip
      | (go_big_quiet_want
         first
         | (refine lx_idc (.tmp 6) (.const (.int .i64 0)) rfl s 0 c rfl rfl hlt hc.out ?_
            simp only [Act.put, List.setIfInBounds_toArray, List.set_cons_zero, List.set_cons_succ]
            go_big_quiet_on)
         | (refine lx_idc (.tmp 11) (.const (.int .i64 0)) rfl s 0 c rfl rfl hlt hc.out ?_
            simp only [Act.put, List.setIfInBounds_toArray, List.set_cons_zero, List.set_cons_succ]
            go_big_quiet_on)
         | (go_big_quiet_op
            go_big_quiet_on)))
     refine wpQuiet_nil ?_
     intro w9 h9
     have HB9 : Hid (Below w.heap.size w w9) := CO.out _ h9
     clear h9 hCp C0 CO
     go_wp2
     go_ret
     exact ⟨rfl, HB9.out⟩
   . have x46 : ((c : Int) == 46) = false := beq_eq_false_iff_ne.2 (by omega)
     have h47 : (c == 46) = false := beq_eq_false_iff_ne.2 h46
     rw [hf, h47, Bool.or_false]
     cases hV : isLt (c) with
     | true =>
       clear hf e h46 h47
       go_enter Tryz.func51, Tryz.ntmps51
       obtain ⟨C, hC⟩ : ∃ C : World -> Prop, C = fun W => Below w.heap.size w W := ⟨_, rfl⟩
       have C0 : Hid (C { w with drawn := w.drawn + 1 }) := by rw [hC]; exact Below.drew (Below.refl _ _)
       have CO : Hid (∀ W, C W -> Below w.heap.size w W) := fun W h => by rw [hC] at h; exact h
       have hCp : ∀ p : Prop, (∀ W, C W -> p) ↔ p := fun p => ⟨fun h => h _ C0.out, fun h _ _ => h⟩
       have F1 : Hid (∀ W, C W -> Calls Tryz.prog 33 #[] W fun e' w' => e' = .returned (.agg (cC 0 cLt).toArray) /\ C w') := fun W h => by
        rw [hC] at h ⊢
        refine (letters_any W).mono ?_
        rintro e' w' ⟨rfl, H⟩
        exact ⟨rfl, h.trans (H.out.mono h.size)⟩
       have F2 : Hid (∀ W, C W -> Calls Tryz.prog 34 #[.agg (cC 0 cLt).toArray, .int .u8 (c : Int)] W fun e' w' => e' = .returned (.bool true) /\ C w') := fun W h => by
        rw [hC] at h ⊢
        have := has_any 0 cLt c (by decide) (by decide) (hoc) W
        rw [inC_lt _ (hoc)] at this
        refine this.mono ?_
        rintro e' w' ⟨rfl, H⟩
        rw [hV]
        exact ⟨rfl, h.trans (H.out.mono h.size)⟩
       clear hC
       clear hV
       go_wp2_with fail
       refine wp_region_quiet (C := C) (by kernel_rfl) (by kernel_rfl) C0.out ?_
       change wpQuiet _ _ _ _ (_ :: _ :: _ :: _ :: _ :: _ :: _ :: _ :: _ :: _ :: _ :: _ :: _ :: _ :: []) _
       repeat (first
        | go_big_quiet_skip
        | (go_big_quiet_want
           first
           | (refine lx_idc (.tmp 6) (.const (.int .i64 0)) rfl s 0 c rfl rfl hlt hc.out ?_
              simp only [Act.put, List.setIfInBounds_toArray, List.set_cons_zero, List.set_cons_succ]
              go_big_quiet_on)
           | (refine lx_idc (.tmp 11) (.const (.int .i64 0)) rfl s 0 c rfl rfl hlt hc.out ?_
              simp only [Act.put, List.setIfInBounds_toArray, List.set_cons_zero, List.set_cons_succ]
              go_big_quiet_on)
           | (refine lx_call 33 _ _ rfl #[] (by rw [List.map_toArray]; rfl) (lx_enters Tryz.func33 (by kernel_rfl) rfl) (.agg (cC 0 cLt).toArray) F1.out ?_
              simp only [Act.put, List.setIfInBounds_toArray, List.set_cons_zero, List.set_cons_succ]
              go_big_quiet_on)
           | (refine lx_call 34 _ _ rfl #[.agg (cC 0 cLt).toArray, .int .u8 (c : Int)] (by rw [List.map_toArray]; rfl) (lx_enters Tryz.func34 (by kernel_rfl) rfl) (.bool true) F2.out ?_
              simp only [Act.put, List.setIfInBounds_toArray, List.set_cons_zero, List.set_cons_succ]
              go_big_quiet_on)
           | (go_big_quiet_op
              go_big_quiet_on)))
       refine wpQuiet_nil ?_
       intro w9 h9
       have HB9 : Hid (Below w.heap.size w w9) := CO.out _ h9
       clear h9 hCp C0 CO
       go_wp2
       go_ret
       exact ⟨rfl, HB9.out⟩
     | false =>
       clear hf e h46 h47
       go_enter Tryz.func51, Tryz.ntmps51
       obtain ⟨C, hC⟩ : ∃ C : World -> Prop, C = fun W => Below w.heap.size w W := ⟨_, rfl⟩
       have C0 : Hid (C { w with drawn := w.drawn + 1 }) := by rw [hC]; exact Below.drew (Below.refl _ _)
       have CO : Hid (∀ W, C W -> Below w.heap.size w W) := fun W h => by rw [hC] at h; exact h
       have hCp : ∀ p : Prop, (∀ W, C W -> p) ↔ p := fun p => ⟨fun h => h _ C0.out, fun h _ _ => h⟩
       have F1 : Hid (∀ W, C W -> Calls Tryz.prog 33 #[] W fun e' w' => e' = .returned (.agg (cC 0 cLt).toArray) /\ C w') := fun W h => by
        rw [hC] at h ⊢
        refine (letters_any W).mono ?_
        rintro e' w' ⟨rfl, H⟩
        exact ⟨rfl, h.trans (H.out.mono h.size)⟩
       have F2 : Hid (∀ W, C W -> Calls Tryz.prog 34 #[.agg (cC 0 cLt).toArray, .int .u8 (c : Int)] W fun e' w' => e' = .returned (.bool false) /\ C w') := fun W h => by
        rw [hC] at h ⊢
        have := has_any 0 cLt c (by decide) (by decide) (hoc) W
        rw [inC_lt _ (hoc)] at this
        refine this.mono ?_
        rintro e' w' ⟨rfl, H⟩
        rw [hV]
        exact ⟨rfl, h.trans (H.out.mono h.size)⟩
       clear hC
       clear hV
       go_wp2_with fail
       refine wp_region_quiet (C := C) (by kernel_rfl) (by kernel_rfl) C0.out ?_
       change wpQuiet _ _ _ _ (_ :: _ :: _ :: _ :: _ :: _ :: _ :: _ :: _ :: _ :: _ :: _ :: _ :: _ :: []) _
       repeat (first
        | go_big_quiet_skip
        | (go_big_quiet_want
           first
           | (refine lx_idc (.tmp 6) (.const (.int .i64 0)) rfl s 0 c rfl rfl hlt hc.out ?_
              simp only [Act.put, List.setIfInBounds_toArray, List.set_cons_zero, List.set_cons_succ]
              go_big_quiet_on)
           | (refine lx_idc (.tmp 11) (.const (.int .i64 0)) rfl s 0 c rfl rfl hlt hc.out ?_
              simp only [Act.put, List.setIfInBounds_toArray, List.set_cons_zero, List.set_cons_succ]
              go_big_quiet_on)
           | (refine lx_call 33 _ _ rfl #[] (by rw [List.map_toArray]; rfl) (lx_enters Tryz.func33 (by kernel_rfl) rfl) (.agg (cC 0 cLt).toArray) F1.out ?_
              simp only [Act.put, List.setIfInBounds_toArray, List.set_cons_zero, List.set_cons_succ]
              go_big_quiet_on)
           | (refine lx_call 34 _ _ rfl #[.agg (cC 0 cLt).toArray, .int .u8 (c : Int)] (by rw [List.map_toArray]; rfl) (lx_enters Tryz.func34 (by kernel_rfl) rfl) (.bool false) F2.out ?_
              simp only [Act.put, List.setIfInBounds_toArray, List.set_cons_zero, List.set_cons_succ]
              go_big_quiet_on)
           | (go_big_quiet_op
              go_big_quiet_on)))
       refine wpQuiet_nil ?_
       intro w9 h9
       have HB9 : Hid (Below w.heap.size w w9) := CO.out _ h9
       clear h9 hCp C0 CO
       go_wp2
       go_ret
       exact ⟨rfl, HB9.out⟩
end Go.Proofs.YtpfiejmhnkcjbaaGreatDoor
namespace Go.Proofs.YtpfiejmhnkcjbaaGreatDoor
set_option maxHeartbeats 4000000
set_option maxRecDepth 8000
open Go.RowKit Lx
set_option linter.unusedVariables false
set_option linter.unusedSimpArgs false
def NuP (nu : List Nat -> Bool) (w0 : World) : Prop := ∀ (x : ByteArray), x.size <= 4096 -> ∀ W, Below w0.heap.size w0 W -> Calls Tryz.prog 53 #[.string x] W fun e w' => ∃ (v : List Value) (E : Int), v.length = 6 /\ (∀ u ∈ v, u.oneCell' = true) /\ e = .returned (.tuple #[.agg v.toArray, .int .i64 E]) /\ (nu (bts x) = true ↔ E = 0) /\ Below W.heap.size W w'
theorem cutdot (r : ByteArray) : (∃ r', bts r = 46 :: bts r' /\ ∀ W, Calls Tryz.prog 50 #[.string r, .string ⟨#[46]⟩] W fun e w' => e = .returned (.tuple #[.string r', .bool true]) /\ w' = W) ∨ ((bts r).head? ≠ some 46 /\ ∀ W, Calls Tryz.prog 50 #[.string r, .string ⟨#[46]⟩] W fun e w' => e = .returned (.tuple #[.string r, .bool false]) /\ w' = W) := by
 have K : ∀ W, Calls Tryz.prog 50 _ _ _ := fun W => Any.strings_CutPrefix Tryz.lays103 r ⟨#[46]⟩ W
 cases hp : Lib.hasPrefix r.data.toList [46] with
 | true =>
   obtain ⟨t, ht⟩ := List.isPrefixOf_iff_prefix.1 hp
   refine .inl ⟨⟨t.toArray⟩, ?_, fun W => (K W).mono ?_⟩
   . unfold bts
     rw [<- ht]
     rfl
   . rintro e w' ⟨rfl, rfl⟩
     refine ⟨?_, rfl⟩
     unfold Lib.trimPrefix
     simp only [hp, if_true]
     rw [<- ht]
     rfl
 | false =>
   refine .inr ⟨fun h => ?_, fun W => (K W).mono ?_⟩
   . cases hr : r.data.toList with
     | nil => unfold bts at h; rw [hr] at h; simp at h
     | cons x l =>
       unfold bts at h
       rw [hr] at h hp
       simp only [List.map_cons, List.head?_cons, Option.some.injEq] at h
       have : x = 46 := UInt8.toNat_inj.1 h
       subst this
       simp [Lib.hasPrefix, List.isPrefixOf] at hp
   . rintro e w' ⟨rfl, rfl⟩
     refine ⟨?_, rfl⟩
     unfold Lib.trimPrefix
     simp only [hp, Bool.false_eq_true, if_false]
theorem pnumber_any (tx nu : List Nat -> Bool) (hdot : NuDot nu) (w0 : World) (hn : NuP nu w0) (s : ByteArray) (hs : s.size <= 4096) (c : Nat) (q : List Nat) (hq : bts s = c :: q) (hc : isDg c = true) (w : World) (hw : Below w0.heap.size w0 w) : Calls Tryz.prog 37 #[.string s] w fun e w' => e = AnsE (ans (Lx.step tx nu (bts s))) /\ Hid (Below w.heap.size w w') := by
 have HN : Hid (NuP nu w0) := hn
 obtain ⟨X, HX⟩ : ∃ X : Nat × List Nat × Nat, Hid (ans (Lx.step tx nu (bts s)) = X) := ⟨_, rfl⟩
 rw [HX.out]
 have KR := fun W => run_any cDg 0 isDg inC_dg (by decide) (by decide) s (by omega) W
 obtain ⟨A, hA⟩ : ∃ A, ((bts s).takeWhile isDg).length = A := ⟨_, rfl⟩
 have hAs : A <= s.size := by rw [<- hA, <- bts_len s]; exact tw_le _ _
 have hrest : bts (s.extract A s.size) = (bts s).drop A := bts_restL s A hAs
 rw [hA] at KR
 have x1 : (A : Int) <= (s.size : Int) := by omega
 rcases cutdot (s.extract A s.size) with ⟨r', hr', KC⟩ | ⟨hr', KC⟩
 . rw [hrest] at hr'
   have KS := fun W => run_any cDg 0 isDg inC_dg (by decide) (by decide) r' (by
    have := congrArg List.length hr'
    rw [List.length_drop, bts_len, List.length_cons, bts_len] at this
    omega) W
   obtain ⟨B, hB⟩ : ∃ B, ((bts r').takeWhile isDg).length = B := ⟨_, rfl⟩
   have hBs : A + 1 + B <= s.size := by
    have h1 := congrArg List.length hr'
    rw [List.length_drop, bts_len, List.length_cons] at h1
    have h2 := tw_le isDg (bts r')
    rw [hB] at h2
    omega
   rw [hB] at KS
   rw [hq] at HX hA hr'
   rw [num_yes hdot hc hA hr' hB, <- hq] at HX
   have hbx : bts (s.extract 0 (A + 1 + B)) = (bts s).take (A + 1 + B) := bts_takeL s _ hBs
   have hsx : (s.extract 0 (A + 1 + B)).size <= 4096 := by rw [size_ex s 0 _ hBs]; omega
   have HT : Hid (ofB ((bts s).take (A + 1 + B)) = s.extract 0 (A + 1 + B)) := by rw [<- hbx, ofB_bts]; rfl
   have KG := fun W => goesOn_any (s.extract (A + 1 + B) s.size) W
   rw [bts_restL s _ hBs] at KG
   have x2 : (((A + 1 + B : Nat) : Int)) <= (s.size : Int) := by omega
   have x3 : (A : Int) + (1 + (B : Int)) = ((A + 1 + B : Nat) : Int) := by omega
   obtain ⟨M, hM⟩ : ∃ M, A + 1 + B = M := ⟨_, rfl⟩
   rw [hM] at HX hBs hbx hsx HT KG x2 x3
   clear hr' hrest hA hq hc hdot hn hM hB hAs
   go_enter Tryz.func37, Tryz.ntmps37
   go_wp2_with (refine al_zero rfl 32 rfl tkZ zTk ?_)
   intro g w1 hg bz gr
   have HZ1 : Hid (Blk w1 g 32 tkZ) := bz
   have HB1 : Hid (Below w.heap.size w w1) := (Below.refl _ _).grown gr (Nat.le_refl _) (fun k e => by cases e)
   clear bz gr
   go_wp2_with fail
   refine (digits_any _).mono ?_
   rintro e w2 ⟨rfl, q⟩
   have HZ2 : Hid (Blk w2 g 32 tkZ) := HZ1.out.below (Hid.out q) HZ1.out.lt
   have HB2 : Hid (Below w.heap.size w w2) := HB1.out.trans ((Hid.out q).mono HB1.out.size)
   clear q HZ1 HB1
   go_wp2_with fail
   refine (KR _).mono ?_
   rintro e w3 ⟨rfl, q⟩
   have HZ3 : Hid (Blk w3 g 32 tkZ) := HZ2.out.below (Hid.out q) HZ2.out.lt
   have HB3 : Hid (Below w.heap.size w w3) := HB2.out.trans ((Hid.out q).mono HB2.out.size)
   clear q HZ2 HB2
   go_wp2_with fail
   refine (KC _).mono ?_
   rintro e w99 ⟨rfl, q⟩
   subst q
   go_wp2_with fail
   refine (digits_any _).mono ?_
   rintro e w4 ⟨rfl, q⟩
   have HZ4 : Hid (Blk w4 g 32 tkZ) := HZ3.out.below (Hid.out q) HZ3.out.lt
   have HB4 : Hid (Below w.heap.size w w4) := HB3.out.trans ((Hid.out q).mono HB3.out.size)
   clear q HZ3 HB3
   go_wp2_with fail
   refine (KS _).mono ?_
   rintro e w5 ⟨rfl, q⟩
   have HZ5 : Hid (Blk w5 g 32 tkZ) := HZ4.out.below (Hid.out q) HZ4.out.lt
   have HB5 : Hid (Below w.heap.size w w5) := HB4.out.trans ((Hid.out q).mono HB4.out.size)
   clear q HZ4 HB4
   go_wp2_with fail
   refine (KG _).mono ?_
   rintro e w6 ⟨rfl, q⟩
   have HZ6 : Hid (Blk w6 g 32 tkZ) := HZ5.out.below (Hid.out q) HZ5.out.lt
   have HB6 : Hid (Below w.heap.size w w6) := HB5.out.trans ((Hid.out q).mono HB5.out.size)
   clear q HZ5 HB5
   cases hfo : folw ((bts s).drop M) with
   | true =>
     rw [hfo, if_pos (.inl rfl)] at HX
     go_wp2_with fail
     refine (none_any _).mono ?_
     rintro e w7 ⟨rfl, q⟩
     have HZ7 : Hid (Blk w7 g 32 tkZ) := HZ6.out.below (Hid.out q) HZ6.out.lt
     have HB7 : Hid (Below w.heap.size w w7) := HB6.out.trans ((Hid.out q).mono HB6.out.size)
     clear q HZ6 HB6
     go_wp2_with (refine st_all rfl 32 (.tmp 2) (.tmp 32) rfl g 32 tkZ (tk1 (0, [], 0)) rfl rfl HZ7.out rfl sTk (one_k _ _) ?_)
     intro w98 b98 g98
     have HBB : Hid (Below w.heap.size w w98) := HB7.out.grown g98 HB7.out.size (fun k e => by injection e with e; omega)
     have HZZ : Hid (Blk w98 g 32 (tk1 (0, [], 0))) := b98
     clear b98 g98 HZ7 HB7
     go_wp2
     refine bodyPost_ret (res_two rfl _ g 32 _ _ rfl HZZ.out Tryz.underlying32 rfl sTk) rfl ?_
     rw [<- HX.out]
     exact ⟨rfl, HBB.out⟩
   | false =>
     rw [hfo] at HX
     go_wp2_with fail
     refine (HN.out (s.extract 0 M) hsx _ (hw.trans (HB6.out.mono hw.size))).mono ?_
     rintro e w7 ⟨v, E, hv6, hv1, rfl, hE, q⟩
     have HZ7 : Hid (Blk w7 g 32 tkZ) := HZ6.out.below q HZ6.out.lt
     have HB7 : Hid (Below w.heap.size w w7) := HB6.out.trans (q.mono HB6.out.size)
     have HE : Hid (nu ((bts s).take M) = true ↔ E = 0) := by rw [hbx] at hE; exact hE
     have HV6 : Hid (v.length = 6) := hv6
     clear q HZ6 HB6 hE hv6
     go_wp2_with (refine al_zero rfl 41 rfl zer z25 ?_)
     intro g5 w88 hg5 bz5 gr5
     go_wp2_with (refine st_all rfl 41 (.tmp 8) (.tmp 39) rfl g5 41 zer v rfl rfl bz5 HV6.out (by rw [s25, HV6.out]) hv1 ?_)
     intro w89 b89 g89
     have HB89 : Hid (Below w7.heap.size w7 w89) := below_new gr5 hg5 g89
     have HZ89 : Hid (Blk w89 g 32 tkZ) := HZ7.out.below HB89.out HZ7.out.lt
     have HB90 : Hid (Below w.heap.size w w89) := HB7.out.trans (HB89.out.mono HB7.out.size)
     have HB89 := HB90
     clear bz5 gr5 b89 g89 HB90 HZ7 HB7
     by_cases hE0 : E = 0
     . subst hE0
       have hnu : nu ((bts s).take M) = true := HE.out.2 rfl
       rw [hnu, if_neg (by simp)] at HX
       go_wp2_with (refine st_all rfl 32 (.tmp 2) (.tmp 50) rfl g 32 tkZ (tk1 (4, (bts s).take M, 0)) rfl (by unfold tk1; rw [HT.out]; rfl) HZ89.out rfl sTk (one_k _ _) ?_)
       intro w98 b98 g98
       have HBB : Hid (Below w.heap.size w w98) := HB89.out.grown g98 HB89.out.size (fun k e => by injection e with e; omega)
       have HZZ : Hid (Blk w98 g 32 (tk1 (4, (bts s).take M, 0))) := b98
       clear b98 g98 HZ89 HB89
       go_wp2
       refine bodyPost_ret (res_two rfl _ g 32 _ _ rfl HZZ.out Tryz.underlying32 rfl sTk) rfl ?_
       rw [<- HX.out]
       exact ⟨rfl, HBB.out⟩
     . have hnu : nu ((bts s).take M) = false := by
        cases h : nu ((bts s).take M) with
        | false => rfl
        | true => exact absurd (HE.out.1 h) hE0
       rw [hnu, if_pos (.inr rfl)] at HX
       have xE : (E == 0) = false := beq_eq_false_iff_ne.2 hE0
       go_wp2_with fail
       refine (none_any _).mono ?_
       rintro e w90 ⟨rfl, q⟩
       have HZ90 : Hid (Blk w90 g 32 tkZ) := HZ89.out.below (Hid.out q) HZ89.out.lt
       have HB90 : Hid (Below w.heap.size w w90) := HB89.out.trans ((Hid.out q).mono HB89.out.size)
       clear q HZ89 HB89
       go_wp2_with (refine st_all rfl 32 (.tmp 2) (.tmp 44) rfl g 32 tkZ (tk1 (0, [], 0)) rfl rfl HZ90.out rfl sTk (one_k _ _) ?_)
       intro w98 b98 g98
       have HBB : Hid (Below w.heap.size w w98) := HB90.out.grown g98 HB90.out.size (fun k e => by injection e with e; omega)
       have HZZ : Hid (Blk w98 g 32 (tk1 (0, [], 0))) := b98
       clear b98 g98 HZ90 HB90
       go_wp2
       refine bodyPost_ret (res_two rfl _ g 32 _ _ rfl HZZ.out Tryz.underlying32 rfl sTk) rfl ?_
       rw [<- HX.out]
       exact ⟨rfl, HBB.out⟩
 . rw [hrest] at hr'
   rw [hq] at HX hA hr'
   rw [num_no hc hA hr', <- hq] at HX
   have hbx : bts (s.extract 0 A) = (bts s).take A := bts_takeL s _ hAs
   have hsx : (s.extract 0 A).size <= 4096 := by rw [size_ex s 0 _ hAs]; omega
   have HT : Hid (ofB ((bts s).take A) = s.extract 0 A) := by rw [<- hbx, ofB_bts]; rfl
   have KG := fun W => goesOn_any (s.extract A s.size) W
   rw [hrest] at KG
   clear hr' hrest hA hq hc hdot hn hAs
   go_enter Tryz.func37, Tryz.ntmps37
   go_wp2_with (refine al_zero rfl 32 rfl tkZ zTk ?_)
   intro g w1 hg bz gr
   have HZ1 : Hid (Blk w1 g 32 tkZ) := bz
   have HB1 : Hid (Below w.heap.size w w1) := (Below.refl _ _).grown gr (Nat.le_refl _) (fun k e => by cases e)
   clear bz gr
   go_wp2_with fail
   refine (digits_any _).mono ?_
   rintro e w2 ⟨rfl, q⟩
   have HZ2 : Hid (Blk w2 g 32 tkZ) := HZ1.out.below (Hid.out q) HZ1.out.lt
   have HB2 : Hid (Below w.heap.size w w2) := HB1.out.trans ((Hid.out q).mono HB1.out.size)
   clear q HZ1 HB1
   go_wp2_with fail
   refine (KR _).mono ?_
   rintro e w3 ⟨rfl, q⟩
   have HZ3 : Hid (Blk w3 g 32 tkZ) := HZ2.out.below (Hid.out q) HZ2.out.lt
   have HB3 : Hid (Below w.heap.size w w3) := HB2.out.trans ((Hid.out q).mono HB2.out.size)
   clear q HZ2 HB2
   go_wp2_with fail
   refine (KC _).mono ?_
   rintro e w99 ⟨rfl, q⟩
   subst q
   go_wp2_with fail
   refine (KG _).mono ?_
   rintro e w4 ⟨rfl, q⟩
   have HZ4 : Hid (Blk w4 g 32 tkZ) := HZ3.out.below (Hid.out q) HZ3.out.lt
   have HB4 : Hid (Below w.heap.size w w4) := HB3.out.trans ((Hid.out q).mono HB3.out.size)
   clear q HZ3 HB3
   cases hfo : folw ((bts s).drop A) with
   | true =>
     rw [hfo, if_pos (.inl rfl)] at HX
     go_wp2_with fail
     refine (none_any _).mono ?_
     rintro e w5 ⟨rfl, q⟩
     have HZ5 : Hid (Blk w5 g 32 tkZ) := HZ4.out.below (Hid.out q) HZ4.out.lt
     have HB5 : Hid (Below w.heap.size w w5) := HB4.out.trans ((Hid.out q).mono HB4.out.size)
     clear q HZ4 HB4
     go_wp2_with (refine st_all rfl 32 (.tmp 2) (.tmp 32) rfl g 32 tkZ (tk1 (0, [], 0)) rfl rfl HZ5.out rfl sTk (one_k _ _) ?_)
     intro w98 b98 g98
     have HBB : Hid (Below w.heap.size w w98) := HB5.out.grown g98 HB5.out.size (fun k e => by injection e with e; omega)
     have HZZ : Hid (Blk w98 g 32 (tk1 (0, [], 0))) := b98
     clear b98 g98 HZ5 HB5
     go_wp2
     refine bodyPost_ret (res_two rfl _ g 32 _ _ rfl HZZ.out Tryz.underlying32 rfl sTk) rfl ?_
     rw [<- HX.out]
     exact ⟨rfl, HBB.out⟩
   | false =>
     rw [hfo] at HX
     go_wp2_with fail
     refine (HN.out (s.extract 0 A) hsx _ (hw.trans (HB4.out.mono hw.size))).mono ?_
     rintro e w5 ⟨v, E, hv6, hv1, rfl, hE, q⟩
     have HZ5 : Hid (Blk w5 g 32 tkZ) := HZ4.out.below q HZ4.out.lt
     have HB5 : Hid (Below w.heap.size w w5) := HB4.out.trans (q.mono HB4.out.size)
     have HE : Hid (nu ((bts s).take A) = true ↔ E = 0) := by rw [hbx] at hE; exact hE
     have HV6 : Hid (v.length = 6) := hv6
     clear q HZ4 HB4 hE hv6
     go_wp2_with (refine al_zero rfl 41 rfl zer z25 ?_)
     intro g5 w88 hg5 bz5 gr5
     go_wp2_with (refine st_all rfl 41 (.tmp 8) (.tmp 39) rfl g5 41 zer v rfl rfl bz5 HV6.out (by rw [s25, HV6.out]) hv1 ?_)
     intro w89 b89 g89
     have HB89 : Hid (Below w5.heap.size w5 w89) := below_new gr5 hg5 g89
     have HZ89 : Hid (Blk w89 g 32 tkZ) := HZ5.out.below HB89.out HZ5.out.lt
     have HB90 : Hid (Below w.heap.size w w89) := HB5.out.trans (HB89.out.mono HB5.out.size)
     have HB89 := HB90
     clear bz5 gr5 b89 g89 HB90 HZ5 HB5
     by_cases hE0 : E = 0
     . subst hE0
       have hnu : nu ((bts s).take A) = true := HE.out.2 rfl
       rw [hnu, if_neg (by simp)] at HX
       go_wp2_with (refine st_all rfl 32 (.tmp 2) (.tmp 50) rfl g 32 tkZ (tk1 (3, (bts s).take A, 0)) rfl (by unfold tk1; rw [HT.out]; rfl) HZ89.out rfl sTk (one_k _ _) ?_)
       intro w98 b98 g98
       have HBB : Hid (Below w.heap.size w w98) := HB89.out.grown g98 HB89.out.size (fun k e => by injection e with e; omega)
       have HZZ : Hid (Blk w98 g 32 (tk1 (3, (bts s).take A, 0))) := b98
       clear b98 g98 HZ89 HB89
       go_wp2
       refine bodyPost_ret (res_two rfl _ g 32 _ _ rfl HZZ.out Tryz.underlying32 rfl sTk) rfl ?_
       rw [<- HX.out]
       exact ⟨rfl, HBB.out⟩
     . have hnu : nu ((bts s).take A) = false := by
        cases h : nu ((bts s).take A) with
        | false => rfl
        | true => exact absurd (HE.out.1 h) hE0
       rw [hnu, if_pos (.inr rfl)] at HX
       have xE : (E == 0) = false := beq_eq_false_iff_ne.2 hE0
       go_wp2_with fail
       refine (none_any _).mono ?_
       rintro e w90 ⟨rfl, q⟩
       have HZ90 : Hid (Blk w90 g 32 tkZ) := HZ89.out.below (Hid.out q) HZ89.out.lt
       have HB90 : Hid (Below w.heap.size w w90) := HB89.out.trans ((Hid.out q).mono HB89.out.size)
       clear q HZ89 HB89
       go_wp2_with (refine st_all rfl 32 (.tmp 2) (.tmp 44) rfl g 32 tkZ (tk1 (0, [], 0)) rfl rfl HZ90.out rfl sTk (one_k _ _) ?_)
       intro w98 b98 g98
       have HBB : Hid (Below w.heap.size w w98) := HB90.out.grown g98 HB90.out.size (fun k e => by injection e with e; omega)
       have HZZ : Hid (Blk w98 g 32 (tk1 (0, [], 0))) := b98
       clear b98 g98 HZ90 HB90
       go_wp2
       refine bodyPost_ret (res_two rfl _ g 32 _ _ rfl HZZ.out Tryz.underlying32 rfl sTk) rfl ?_
       rw [<- HX.out]
       exact ⟨rfl, HBB.out⟩
end Go.Proofs.YtpfiejmhnkcjbaaGreatDoor
