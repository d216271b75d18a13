import Derived.Test.YtpfiejmhnkcjbaaGreatDoorHG29x
import Derived.Test.YtpfiejmhnkcjbaaGreatDoorHG42x
import Derived.Test.YtpfiejmhnkcjbaaGreatDoorHG16x
import Derived.Test.YtpfiejmhnkcjbaaGreatDoorHG47x
namespace Go.Proofs.YtpfiejmhnkcjbaaGreatDoor
open Go.RowKit Lx
set_option linter.unusedVariables false
set_option linter.unusedSimpArgs false
theorem nup_ex3 (w : World) : ∃ nu, (NuP nu w /\ NuDot nu) /\ NuC nu := by
 have h : ∀ x : ByteArray, ∃ c : Bool, (x.size <= 4096 -> ∀ W, Calls Tryz.prog 53 #[.string x] W fun e w' => ∃ (v : List Value) (E : Int), v.length = 6 /\ (∀ u ∈ v, u.oneCell' = true) /\ e = .returned (.tuple #[.agg v.toArray, .int .i64 E]) /\ (c = true ↔ E = 0) /\ Below W.heap.size W w') /\ (∀ l : List Nat, (∀ d ∈ l, isDg d = true) -> bts x = l ++ [46] -> c = false) /\ (x.size <= 10000 -> ∀ W, Calls Tryz.prog 42 #[.string x] W fun e w' => ∃ v k E, e = .returned (.tuple #[v, .int .i64 E]) /\ IsVL v k /\ (E = 0 ↔ c = true) /\ Hid (Below W.heap.size W w')) := fun x => by
  obtain ⟨R, b, hm, hR, CP⟩ := D6.minus_any x
  by_cases hx : x.size <= 10000
  . obtain ⟨A, B, d, hc, CT⟩ := D6.cut_any R (by omega)
    have hA : A.size <= 1000000 /\ B.size <= 1000000 /\ (d = false -> B = ⟨#[]⟩) := by
     cases hc with
     | none h ha hb => subst ha hb; exact ⟨by omega, by decide, fun _ => rfl⟩
     | «at» h ha =>
       have h1 := congrArg List.length h
       rw [List.length_append, List.length_cons] at h1
       have e1 : R.data.toList.length = R.size := Array.length_toList ..
       have e2 : A.data.toList.length = A.size := Array.length_toList ..
       have e3 : B.data.toList.length = B.size := Array.length_toList ..
       exact ⟨by omega, by omega, fun h => by cases h⟩
    refine ⟨decide (D6.Po.e (D6.parseV b d R A B) = 0), fun _ W => ?_, fun l hl e => ?_, fun _ W => ?_⟩
    . refine (D6.dParse_any x R A B b d (by omega) hA.1 hA.2.1 hA.2.2 CP CT W).mono ?_
      rintro e w' ⟨rfl, g⟩
      refine ⟨[_, _, _, _, _, _], _, rfl, ?_, rfl, by simp, g⟩
      simp
      exact ⟨rfl, rfl, rfl, rfl, rfl⟩
    . rw [dot_no hl e hm hc]
      rfl
    . refine (D6.rParse_any x R A B b d hm (by omega) hc W).mono ?_
      rintro e w' ⟨rfl, g⟩
      exact ⟨_, _, _, rfl, ⟨_, _, _, _, _, _, _, _, _, rfl⟩, by simp, g⟩
  . exact ⟨false, fun h => absurd h (by omega), fun _ _ _ => rfl, fun h => absurd h hx⟩
 obtain ⟨f, hf⟩ := Classical.axiomOfChoice h
 refine ⟨fun l => f (ofB l), ⟨fun x hx W _ => ?_, fun l hl => ?_⟩, fun x W hx => ?_⟩
 . simp only [ofB_bts]
   exact (hf x).1 hx W
 . refine (hf _).2.1 l hl (bts_ofB _ fun y hy => ?_)
   rcases List.mem_append.1 hy with h | h
   . have := hl y h
     unfold isDg at this
     simp at this
     omega
   . simp at h
     omega
 . simp only [ofB_bts]
   exact (hf x).2.2 hx W
theorem kind_39 {p : Vt} {T : List Nat} (hw : WfV p) (he : encE p = 0) (h : prV p = 39 :: T) : p.1.k = 6 := by
 have hf := first_of hw (encE_chk he) (m := []) (by rw [List.append_nil]; exact h.symm)
 unfold fst9 at hf
 omega
theorem txp_ex3 (w : World) (ht : D6.Ptab w) : ∃ tx, TxP tx w /\ TxC tx := by
 classical
 refine ⟨fun l => decide (∃ y, WfV y /\ encE y = 0 /\ prV y = l), fun x hx h39 W hW => ?_, fun x W hx h39 => ?_⟩
 . refine (tparse39 x (by omega) h39 W (ptab_below ht hW)).mono ?_
   rintro e w' ⟨p, na, nc, ka, kc, E, rfl, H⟩
   refine ⟨six p.1 na nc ka p.2.list.length kc, E, rfl, six_one _ _ _ _ _ _, rfl, ?_, H.out.bl⟩
   rw [decide_eq_true_iff]
   rcases H.out.ok with ⟨h0, h1, h2, _⟩ | ⟨h3, _, h4⟩
   . exact ⟨fun _ => h0, fun _ => ⟨p, H.out.wf, h1, h2⟩⟩
   . constructor
     . rintro ⟨y, y1, y2, y3⟩
       exact absurd y3 (h4 (by omega) y y1 y2)
     . intro h
       rw [h3] at h
       cases h
 . obtain ⟨T, hT⟩ : ∃ T, bts x = 39 :: T := by
    cases hb : bts x with
    | nil => rw [hb] at h39; cases h39
    | cons c q => rw [hb] at h39; simp at h39; exact ⟨q, by rw [h39]⟩
   refine (rtparse39 x (by omega) T hT W).mono ?_
   rintro e w' ⟨p, na, nc, ka, kc, E, rfl, H⟩
   refine ⟨_, p.1.k, E, rfl, ⟨_, _, _, _, _, _, _, _, _, rfl⟩, ?_, H.out.bl⟩
   rw [decide_eq_true_iff]
   rcases H.out.ok with ⟨h0, h1, h2⟩ | ⟨h3, _, h4⟩
   . exact ⟨fun _ => ⟨h0, kind_39 H.out.wf h1 (by rw [h2, hT])⟩, fun _ => ⟨p, H.out.wf, h1, h2⟩⟩
   . constructor
     . rintro ⟨y, y1, y2, y3⟩
       exact absurd y3 (h4 y y1 y2)
     . rintro ⟨h, _⟩
       rw [h3] at h
       cases h
end Go.Proofs.YtpfiejmhnkcjbaaGreatDoor
