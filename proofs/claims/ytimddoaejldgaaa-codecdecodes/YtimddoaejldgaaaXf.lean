/-
  codec's reader: text.
-/
import Derived.Test.YtimddoaejldgaaaXe
import Derived.Laws.BytesArg
namespace Go.Proofs.Ytimddoaejldgaaa
open Go.RowKit Math
set_option linter.unusedVariables false
theorem strOf (l : List Nat) (h : Oct l) : strOfNums (l.map fun n : Nat => (n : Int)) = ofB l := by
  unfold strOfNums ofB
  congr 2
  rw [List.map_map]
  apply List.map_congr_left
  intro x hx
  have := h x hx
  simp
set_option maxRecDepth 8000 in
theorem text_any : RdP 65 txR (fun s => .string s) (fun s => s.size ≤ 65536) (fun _ => True) := by
  intro w0 W r ab cb L i err hE hb hi hp
  have K := length_any w0 W r ab cb L i err hE hb hi hp
  have HE : Hid (En w0 W r ab cb L) := hE
  have hlen := hE.len
  clear hE hb
  go_enter Try.func65, Try.ntmps65
  go_wp2_with fail
  refine K.mono ?_
  clear K
  rintro e w1 ⟨n, j, e1, rfl, hn, _, H⟩
  have hjl := H.out.1.le
  by_cases hno : e1 ≠ 0 ∨ L.length < j + n
  · have K2 := take_no r ab cb L.length j n H.out.1.le hlen e1 hno w1 H.out.1.blk
    obtain ⟨E, HEE⟩ : ∃ E, Hid ((if e1 ≠ 0 then e1 else 2) = E) := ⟨_, rfl⟩
    rw [HEE.out] at K2
    have HS : Hid (St txR L i err j E em) := by
      refine st_bind H.out.2 ?_
      by_cases he : e1 = 0
      · right
        refine ⟨he, .inr ⟨2, ?_, ?_, by decide⟩⟩
        · have : takeR n (L.drop j) = .error 2 := by
            unfold takeR
            rw [if_pos (by rw [List.length_drop]; omega)]
          exact bind_no this
        · rw [← HEE.out, if_neg (by simpa using he)]; rfl
      · left
        exact ⟨he, rfl, by rw [← HEE.out, if_pos he]⟩
    have hcv : ∀ W, (convert 29 9 (.slice none 0 0)).run Try.prog W = .ok (.string ⟨#[]⟩) W := fun W => run_convert_bytes_nil W 29 5 Try.underlying29 Try.underlying5 0 0 9 Try.underlying9
    go_wp2_with fail
    refine K2.mono ?_
    clear K2
    rintro e w2 ⟨rfl, H2⟩
    have HR : Hid (Ro r ab cb L.length W w2 j E) := H.out.1.trans H2.out
    clear H H2 HE
    go_wp2
    go_ret
    exact ⟨em, j, E, rfl, by decide, fun _ => trivial, HR.out, HS.out⟩
  have he1 : e1 = 0 := by omega
  subst he1
  have hjn : j + n ≤ L.length := by omega
  by_cases hL0 : L.length = 0
  · exfalso
    have : err = 0 := by
      rcases H.out.2 with ⟨a, _, c⟩ | ⟨a, _⟩
      · exact absurd c.symm a
      · exact a
    have := hp this
    omega
  obtain ⟨bb, ob, rfl, hc⟩ := HE.out.ptr (by omega)
  have K2 := take_ok r bb ob cb L.length j n (j + n) rfl hjn hlen HE.out.cap HE.out.cm w1 H.out.1.blk
  have HO : Hid (Oct ((L.drop j).take n)) := fun x hx => HE.out.oct x (List.mem_of_mem_drop (List.mem_of_mem_take hx))
  have hl2 : ((L.drop j).take n).length = n := by rw [List.length_take, List.length_drop]; omega
  have HS : Hid (St txR L i err (j + n) 0 (ofB ((L.drop j).take n))) := by
    refine st_bind H.out.2 (.inr ⟨rfl, .inl ⟨?_, rfl, by omega⟩⟩)
    have : takeR n (L.drop j) = .ok ((L.drop j).take n, (L.drop j).drop n) := by
      unfold takeR
      rw [if_neg (by rw [List.length_drop]; omega)]
    rw [bind_ok this, List.drop_drop]
    rfl
  have hsz : (ofB ((L.drop j).take n)).size ≤ 65536 := by rw [ofB_size, hl2]; exact hn
  clear hc
  go_wp2_with fail
  refine K2.mono ?_
  clear K2
  rintro e w2 ⟨oo, c, rfl, H2⟩
  have HR : Hid (Ro r (some ⟨bb, ob, none⟩) cb L.length W w2 (j + n) 0) := H.out.1.trans H2.out.1
  have hcv : (convert 29 9 (.slice (some ⟨bb, oo, none⟩) n c)).run Try.prog w2 = .ok (.string (ofB ((L.drop j).take n))) w2 := by
    rw [← strOf _ HO.out]
    refine run_convert_bytes_arg w2 29 5 Try.underlying29 Try.underlying5 bb oo n c _ (by rw [List.length_map]; exact hl2) (fun k hk => ?_) 9 Try.underlying9
    have ho := H2.out.2 (by omega)
    subst ho
    have := (HE.out.ro HR.out).cell (i := j + k) (by omega)
    rw [Nat.add_assoc, this]
    simp [List.getD_eq_getElem?_getD, List.getElem?_drop, hk]
    cases h : L[j + k]? <;> simp
  generalize ofB ((L.drop j).take n) = s at *
  clear H H2 HE HO
  go_wp2
  go_ret
  exact ⟨s, j + n, 0, rfl, hsz, fun _ => trivial, HR.out, HS.out⟩
end Go.Proofs.Ytimddoaejldgaaa
