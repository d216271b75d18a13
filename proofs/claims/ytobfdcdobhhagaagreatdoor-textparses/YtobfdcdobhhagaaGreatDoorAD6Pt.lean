import Derived.Test.YtobfdcdobhhagaaGreatDoorAD6Prpi
import Derived.Test.YtobfdcdobhhagaaGreatDoorAD6Prpd
import Derived.Test.YtobfdcdobhhagaaGreatDoorAD6Prni
import Derived.Test.YtobfdcdobhhagaaGreatDoorAD6Prnd
namespace Go.Proofs.YtobfdcdobhhagaaGreatDoor.D6
set_option maxRecDepth 8000
open Go.RowKit
set_option linter.unusedVariables false
theorem rP_e (s : ByteArray) (hs : s.size = 0) (w : World) :
 Calls Tryz.prog 78 #[.string s] w fun e w' => e = .returned (.tuple #[.agg #[.int .i64 0, .int .i64 0, .int .i64 0, .string ⟨#[]⟩, .slice none 0 0, .slice none 0 0], .int .i64 3]) /\ Grow w w' := by
 have HB0 : Hid (Blk (w.alloc (.cells #[.int .i64 0, .int .i64 0, .int .i64 0, .string ⟨#[]⟩, .slice none 0 0, .slice none 0 0] 38)) w.heap.size 38 [.int .i64 0, .int .i64 0, .int .i64 0, .string ⟨#[]⟩, .slice none 0 0, .slice none 0 0]) := blk_new w 38 [.int .i64 0, .int .i64 0, .int .i64 0, .string ⟨#[]⟩, .slice none 0 0, .slice none 0 0]
 have HG0 : Hid (Grow w (w.alloc (.cells #[.int .i64 0, .int .i64 0, .int .i64 0, .string ⟨#[]⟩, .slice none 0 0, .slice none 0 0] 38))) := (Grow.refl _).alloc _
 go_enter Tryz.func78, Tryz.ntmps78
 go_wp2
 go_loopw [6, 7, 8] (fun p dv i wr => p = .int .i64 (-1) /\ dv = .slice none 0 0 /\ i = .int .i64 0 /\ Hid (Blk wr w.heap.size 38 [.int .i64 0, .int .i64 0, .int .i64 0, .string ⟨#[]⟩, .slice none 0 0, .slice none 0 0]) /\ Hid (Grow w wr)) (fun _ _ i _ => 0)
 case atStart => exact ⟨rfl, rfl, rfl, HB0.out, HG0.out⟩
 case round =>
  obtain ⟨rfl, rfl, rfl, HB, HG⟩ := hrel
  clear HB0 HG0
  go_wp2_with ((with_reducible refine st_pre (.tmp 2) (.tmp 93) ?_); refine st_all rfl 38 (.tmp 2) (.tmp 93) rfl w.heap.size 38 [.int .i64 0, .int .i64 0, .int .i64 0, .string ⟨#[]⟩, .slice none 0 0, .slice none 0 0] [.int .i64 0, .int .i64 0, .int .i64 0, .string ⟨#[]⟩, .slice none 0 0, .slice none 0 0] rfl rfl HB.out rfl sV (ones rfl) ?_)
  intro w2 y2 m2
  have HG2 : Hid (Grow w w2) := Below.grown HG.out m2 (Below.size HG.out) (by intro e he; injection he with he; omega)
  go_wp2
  exact bodyPost_ret (res_two rfl _ w.heap.size 38 _ _ rfl y2 Tryz.underlying38 rfl sV) rfl ⟨rfl, HG2.out⟩
theorem rParse_any (s R A B : ByteArray) (b d : Bool) (hm : Minus s R b) (hR : R.size <= 100000) (hc : Cuts R A B d) (w : World) :
 Calls Tryz.prog 78 #[.string s] w fun e w' => e = .returned (.tuple #[.agg #[.int .i64 (Po.k (parseV b d R A B)), .int .i64 (Po.n (parseV b d R A B)), .int .i64 (Po.s (parseV b d R A B)), .string ⟨#[]⟩, .slice none 0 0, .slice none 0 0], .int .i64 (Po.e (parseV b d R A B))]) /\ Grow w w' := by
 cases hm with
 | yes h =>
   have h0 : 0 < s.size := by rw [size_list, h]; simp
   have hl : 0 < s.data.toList.length := by rw [<- size_list]; exact h0
   have e0 : (s[0]'h0).toNat = 45 := by
    rw [byte_at s 0 h0 hl]
    have : s.data.toList[0] = 45 := by simp [h]
    rw [this]; rfl
   have eR : s.extract 1 s.size = R := by
    have hz : s.size = R.data.toList.length + 1 := by rw [size_list, h]; rfl
    have e : (s.extract 1 s.size).data.toList = R.data.toList := by
     rw [ByteArray.data_extract, Array.toList_extract, List.extract_eq_take_drop, h, hz]
     show List.take _ R.data.toList = _
     rw [List.take_of_length_le (by omega)]
    have e2 : (s.extract 1 s.size).data = R.data := Array.toList_inj.1 e
    exact ByteArray.ext e2
   cases d
   . exact rP_ni s R A B hR h0 e0 eR hc w
   . exact rP_nd s R A B hR h0 e0 eR hc w
 | no h hr =>
   subst hr
   by_cases h0 : R.size = 0
   . have hA : A.size = 0 := by
      have hn : R.data.toList = [] := List.eq_nil_of_length_eq_zero (by rw [<- size_list]; exact h0)
      cases hc with
      | none h1 ha hb => rw [ha]; exact h0
      | «at» h1 ha => rw [hn] at h1; simp at h1
     rw [pv_empty hA]
     exact rP_e R h0 w
   . have h0 : 0 < R.size := by omega
     have hl : 0 < R.data.toList.length := by rw [<- size_list]; exact h0
     have e0 : ¬ (R[0]'h0).toNat = 45 := fun e => h (by
      rw [List.head?_eq_getElem?, List.getElem?_eq_getElem hl, <- byte_at R 0 h0 hl]
      congr 1
      exact UInt8.toNat_inj.1 e)
     cases d
     . exact rP_pi R R A B hR h0 e0 rfl hc w
     . exact rP_pd R R A B hR h0 e0 rfl hc w
end Go.Proofs.YtobfdcdobhhagaaGreatDoor.D6
