/-
   ·  ·  ·  ·  · 
-/
import Derived.Test.YtpfiejmhnkcjbaaGreatDoorHD6Ty
import Derived.Laws.BytesArg
import Derived.Test.YtpfiejmhnkcjbaaGreatDoorHG23x
namespace Go.Proofs.YtpfiejmhnkcjbaaGreatDoor.D6
set_option maxRecDepth 8000
open Go.RowKit Go.Sort
set_option linter.unusedVariables false
theorem dec_step {v : Nat} (h : 10 <= v) : Lib.decDigits v = Lib.decDigits (v / 10) ++ [UInt8.ofNat (48 + v % 10)] := by
 rw [Lib.decDigits, dif_neg (by omega)]
theorem app_list (a b : ByteArray) : (a ++ b).data.toList = a.data.toList ++ b.data.toList := by simp [ByteArray.data_append]
theorem of_list {l : List UInt8} {a : ByteArray} (h : l = a.data.toList) : (⟨l.toArray⟩ : ByteArray) = a := by
 subst h
 simp
theorem size_list (a : ByteArray) : a.size = a.data.toList.length := by
 rw [Array.length_toList]
 rfl
theorem conv_one (wr : World) (v : Nat) (D : ByteArray) (hD : D.data.toList = [UInt8.ofNat (48 + v % 10)]) :
 (convert 34 9 (.slice (some ⟨wr.heap.size, 0, none⟩) 1 1)).run Tryz.prog (wr.alloc (Obj.cells #[.int .u8 (48 + (v : Int) % 10)] 5)) = .ok (.string D) (wr.alloc (Obj.cells #[.int .u8 (48 + (v : Int) % 10)] 5)) := by
 have h := run_convert_bytes_back (P := Tryz.prog) (wr.alloc (Obj.cells #[.int .u8 (48 + (v : Int) % 10)] 5)) 34 9 5 ⟨wr.heap.size, 0, none⟩ 1 [UInt8.ofNat (48 + v % 10)] Tryz.underlying34 Tryz.underlying5 Tryz.underlying9 (fun j hj => by
  have : j = 0 := by simpa using hj
  subst this
  rw [Lib.add_plain, World.cell?_alloc_new]
  have e : ((48 + v % 10 : Nat) : Int) = 48 + (v : Int) % 10 := by omega
  have e2 : (UInt8.ofNat (48 + v % 10)).toNat = 48 + v % 10 := by
   rw [UInt8.toNat_ofNat']
   omega
  simp only [List.getElem_cons_zero, e2, e]
  rfl)
 rw [of_list hD.symm] at h
 exact h
theorem decR (u : Nat) (hu : u < 18446744073709551616) (w : World) : Calls Tryz.prog 27 #[.int .u64 (u : Int)] w fun e w' => e = .returned (.string ⟨(Lib.decDigits u).toArray⟩) /\ Grow w w' := by
 have H20 : Hid ((Lib.decDigits u).length <= 20) := by
  have := (dig_size u hu).2
  rw [size_list] at this
  exact this
 go_enter Tryz.func27, Tryz.ntmps27
 go_wp2
 go_loopw [0, 3] (fun p q wr => ∃ (v : Nat) (S : ByteArray), v < 18446744073709551616 /\ S.size <= 20 /\ p = .int .u64 (v : Int) /\ q = .string S /\ Hid (Lib.decDigits u = Lib.decDigits v ++ S.data.toList /\ Grow w wr)) (fun p _ _ => (intOf p).toNat)
 case atStart => exact ⟨u, ⟨#[]⟩, hu, by decide, rfl, rfl, (List.append_nil _).symm, Grow.refl _⟩
 case round =>
  obtain ⟨v, S, hv, hS, rfl, rfl, HI⟩ := hrel
  obtain ⟨D, hD⟩ : ∃ D : ByteArray, D.data.toList = [UInt8.ofNat (48 + v % 10)] := ⟨⟨[UInt8.ofNat (48 + v % 10)].toArray⟩, rfl⟩
  have hcv := conv_one wr v D hD
  have hDs : D.size = 1 := by rw [size_list, hD]; rfl
  have HDD := Lib.hid hD
  clear hD
  have hsz : ¬ 9223372036854775807 < D.size + S.size := by omega
  by_cases h10 : v < 10
  . have HR : Hid ((⟨(Lib.decDigits u).toArray⟩ : ByteArray) = D ++ S /\ Grow w wr) := by
     refine ⟨of_list ?_, HI.out.2⟩
     rw [app_list, HDD.out, HI.out.1, Lib.decDigits_one h10, Nat.mod_eq_of_lt h10]
    have e0 : (v : Int) / 10 = 0 := by omega
    go_wp2
    go_ret
    exact ⟨by rw [HR.out.1]; rfl, HR.out.2.alloc _⟩
  . have e0 : (v : Int) / 10 = ((v / 10 : Nat) : Int) := by omega
    have e1 : ¬ (v / 10 : Nat) = 0 := by omega
    have HR : Hid (Lib.decDigits u = Lib.decDigits (v / 10) ++ (D ++ S).data.toList /\ Grow w wr /\ v / 10 < v) := by
     refine ⟨?_, HI.out.2, by omega⟩
     rw [app_list, HDD.out, HI.out.1, dec_step (by omega), List.append_assoc]
    obtain ⟨v', hv'⟩ : ∃ v', v / 10 = v' := ⟨_, rfl⟩
    rw [hv'] at e0 e1 HR
    have hlt : v' < 18446744073709551616 := by omega
    clear hv'
    go_wp2
    go_roundw
    case rel =>
     have q := H20.out
     rw [HR.out.1, List.length_append, <- size_list] at q
     exact ⟨v', D ++ S, hlt, by omega, rfl, rfl, HR.out.1, HR.out.2.1.alloc _⟩
    case measure => have := HR.out.2.2; simp [intOf]; omega
end Go.Proofs.YtpfiejmhnkcjbaaGreatDoor.D6
namespace Go.Proofs.YtpfiejmhnkcjbaaGreatDoor.D6
set_option maxRecDepth 8000
open Go.RowKit
set_option linter.unusedVariables false
theorem trimZ (s c : ByteArray) (w : World) (hs : s.size <= 9223372036854775807) (hc : c.size < 4294967281) (ha : c.data.toList.all (fun b => decide (b.toNat < 128)) = true) :
 Calls Tryz.prog 100 #[.string s, .string c] w fun e w' => e = .returned (.string ⟨(Lib.trimS s.data.toList c.data.toList).toArray⟩) /\ Grow w w' :=
 Any.strings_Trim_laid Tryz.lays160 (by kernel_rfl) s c w hs hc (ascii_of_all ha)
theorem dw_nil {p : UInt8 -> Bool} : ∀ m : List UInt8, (∀ x ∈ m.dropWhile p, p x = true) -> m.dropWhile p = []
 | [], _ => rfl
 | a :: m, h => by
   rw [List.dropWhile_cons] at h ⊢
   split at h
   . rename_i ha
     rw [if_pos ha]
     exact dw_nil m h
   . rename_i ha
     exact absurd (h a (List.mem_cons_self ..)) ha
theorem dw_iff {p : UInt8 -> Bool} : ∀ m : List UInt8, m.dropWhile p = [] ↔ ∀ x ∈ m, p x = true
 | [] => by simp
 | a :: m => by
   rw [List.dropWhile_cons]
   split
   . rename_i ha
     rw [dw_iff m]
     simp [ha]
   . rename_i ha
     simp [ha]
theorem trim_all (l cs : List UInt8) : Lib.trimS l cs = [] ↔ l.all (cs.contains ·) = true := by
 unfold Lib.trimS Lib.trimLeftS Lib.trimRightS
 constructor
 . intro h
   have h1 := (dw_iff _).1 h
   have h2 := dw_nil l.reverse (fun x hx => h1 x (List.mem_reverse.2 hx))
   have h3 := (dw_iff _).1 h2
   exact List.all_eq_true.2 fun x hx => h3 x (List.mem_reverse.2 hx)
 . intro h
   have h3 := List.all_eq_true.1 h
   rw [(dw_iff _).2 (fun x hx => h3 x (List.mem_reverse.1 hx))]
   rfl
def dig10 (b : UInt8) : Bool := decide (48 <= b.toNat /\ b.toNat <= 57)
theorem dig10_set (b : UInt8) : ([48, 49, 50, 51, 52, 53, 54, 55, 56, 57] : List UInt8).contains b = dig10 b := by
 have h : ∀ n : Nat, n < 256 -> ([48, 49, 50, 51, 52, 53, 54, 55, 56, 57] : List UInt8).contains (UInt8.ofNat n) = dig10 (UInt8.ofNat n) := by decide +kernel
 have := h b.toNat b.toNat_lt
 rwa [UInt8.ofNat_toNat] at this
def allDig (l : List UInt8) : Bool := !l.isEmpty && l.all dig10
theorem str_nil (a : ByteArray) : (a.toList == []) = decide (a.data.toList = []) := by
 rw [Lib.toList_data]
 cases a.data.toList <;> rfl
theorem isDigits_any (s : ByteArray) (hs : s.size <= 1000000) (w : World) : Calls Tryz.prog 99 #[.string s] w fun e w' => e = .returned (.bool (allDig s.data.toList)) /\ Grow w w' := by
 obtain ⟨T, hT⟩ : ∃ T : ByteArray, T = ⟨(Lib.trimS s.data.toList (⟨#[48, 49, 50, 51, 52, 53, 54, 55, 56, 57]⟩ : ByteArray).data.toList).toArray⟩ := ⟨_, rfl⟩
 have K := Lib.hid (fun W => trimZ s ⟨#[48, 49, 50, 51, 52, 53, 54, 55, 56, 57]⟩ W (by omega) (by decide) (by decide))
 rw [<- hT] at K
 have HT : Hid ((T.toList == []) = s.data.toList.all dig10) := by
  show _ = _
  rw [str_nil, hT]
  have := trim_all s.data.toList [48, 49, 50, 51, 52, 53, 54, 55, 56, 57]
  rw [show (fun x => ([48, 49, 50, 51, 52, 53, 54, 55, 56, 57] : List UInt8).contains x) = dig10 from funext dig10_set] at this
  show decide (Lib.trimS s.data.toList [48, 49, 50, 51, 52, 53, 54, 55, 56, 57] = []) = _
  cases h : s.data.toList.all dig10 with
  | true => exact decide_eq_true (this.2 h)
  | false => exact decide_eq_false (fun e => by rw [this.1 e] at h; cases h)
 by_cases h0 : (s.toList == []) = true
 . have e : allDig s.data.toList = false := by
    rw [str_nil, decide_eq_true_eq] at h0
    rw [h0]; rfl
   rw [e]
   clear HT hT e
   go_enter Tryz.func99, Tryz.ntmps99
   go_wp2
   go_ret
   exact ⟨rfl, Grow.refl _⟩
 . have h0' : (s.toList == []) = false := by simpa using h0
   have e : Hid (allDig s.data.toList = s.data.toList.all dig10) := by
    show _ = _
    rw [str_nil, decide_eq_false_iff_not] at h0'
    cases hl : s.data.toList with
    | nil => exact absurd hl h0'
    | cons a b => rfl
   have HR : Hid ((T.toList == []) = allDig s.data.toList) := by show _ = _; rw [HT.out, e.out]
   generalize allDig s.data.toList = R at *
   clear HT e h0 hT
   have hr := HR.out
   go_enter Tryz.func99, Tryz.ntmps99
   go_wp2_with fail
   refine (K.out _).mono ?_
   rintro e w2 ⟨rfl, g⟩
   have G : Hid (Grow w w2) := g
   clear g
   go_wp2
   go_ret
   exact ⟨rfl, G.out⟩
end Go.Proofs.YtpfiejmhnkcjbaaGreatDoor.D6
namespace Go.Proofs.YtpfiejmhnkcjbaaGreatDoor.D6
set_option maxRecDepth 8000
open Go.RowKit
set_option linter.unusedVariables false
theorem isPart_any (s : ByteArray) (hs : s.size <= 1000000) (w : World) : Calls Tryz.prog 71 #[.string s] w fun e w' => e = .returned (.bool (allDig s.data.toList && decide (s.size <= 18))) /\ Grow w w' := by
 have K := Lib.hid (fun W => isDigits_any s hs W)
 generalize allDig s.data.toList = R at *
 cases R
 . go_enter Tryz.func71, Tryz.ntmps71
   go_wp2_with fail
   refine (K.out _).mono ?_
   rintro e w2 ⟨rfl, g⟩
   have G : Hid (Grow w w2) := g
   clear g
   go_wp2
   go_ret
   exact ⟨rfl, G.out⟩
 . by_cases h : s.size <= 18
   all_goals
    have e : decide (s.size <= 18) = decide ((s.size : Int) <= 18) := by simp; omega
    have HE := Lib.hid e
    clear e
    go_enter Tryz.func71, Tryz.ntmps71
    go_wp2_with fail
    refine (K.out _).mono ?_
    rintro e w2 ⟨rfl, g⟩
    have G : Hid (Grow w w2) := g
    clear g
    go_wp2
    go_ret
    exact ⟨by rw [HE.out]; rfl, G.out⟩
def wholeB (s : ByteArray) : Bool := allDig s.data.toList && (decide (¬ s.data.toList.head? = some 48) || decide (s.size = 1))
theorem dig_pos {s : ByteArray} (h : allDig s.data.toList = true) : 0 < s.size := by
 rw [size_list]
 cases hl : s.data.toList with
 | nil => rw [hl] at h; cases h
 | cons a r => simp
theorem byte_at (s : ByteArray) (i : Nat) (h : i < s.size) (h' : i < s.data.toList.length) : s[i] = s.data.toList[i] := by
 rw [Array.getElem_toList]
 rfl
theorem whole_eq (s : ByteArray) (h0 : 0 < s.size) (hd : allDig s.data.toList = true) : wholeB s = (decide (¬ ((s[0]'h0).toNat : Int) = 48) || decide (s.size = 1)) := by
 unfold wholeB
 rw [hd, Bool.true_and]
 congr 1
 apply decide_eq_decide.2
 have hl : 0 < s.data.toList.length := by rw [<- size_list]; exact h0
 rw [byte_at s 0 h0 hl, List.head?_eq_getElem?, List.getElem?_eq_getElem hl]
 generalize s.data.toList[0] = a
 constructor
 . intro h e
   apply h
   congr 1
   apply UInt8.toNat_inj.1
   show a.toNat = 48
   omega
 . intro h e
   injection e with e
   apply h
   rw [e]
   rfl
theorem isWhole_any (s : ByteArray) (hs : s.size <= 1000000) (w : World) : Calls Tryz.prog 70 #[.string s] w fun e w' => e = .returned (.bool (wholeB s)) /\ Grow w w' := by
 have K := Lib.hid (fun W => isDigits_any s hs W)
 cases hd : allDig s.data.toList with
 | false =>
   have e : wholeB s = false := by unfold wholeB; rw [hd]; rfl
   rw [hd] at K
   rw [e]
   clear hd e
   go_enter Tryz.func70, Tryz.ntmps70
   go_wp2_with fail
   refine (K.out _).mono ?_
   rintro e w2 ⟨rfl, g⟩
   have G : Hid (Grow w w2) := g
   clear g
   go_wp2
   go_ret
   exact ⟨rfl, G.out⟩
 | true =>
   have h0 := dig_pos hd
   have HE := Lib.hid (whole_eq s h0 hd)
   rw [hd] at K
   clear hd
   go_enter Tryz.func70, Tryz.ntmps70
   go_wp2_with fail
   refine (K.out _).mono ?_
   rintro e w2 ⟨rfl, g⟩
   have G : Hid (Grow w w2) := g
   clear g
   go_wp2
   . rename_i h
     go_ret
     refine ⟨?_, G.out⟩
     rw [HE.out]
     show Ending.returned (.bool ((s.size : Int) == 1)) = _
     congr 2
     simp only [h, not_true_eq_false, decide_false, Bool.false_or]
     by_cases e : s.size = 1
     . simp [e]
     . have : ¬ (s.size : Int) = 1 := by omega
       simp [e, this]
   . rename_i h
     go_ret
     refine ⟨?_, G.out⟩
     rw [HE.out]
     simp only [h, not_false_eq_true, decide_true, Bool.true_or]
     rfl
def noughtB (l : List UInt8) : Bool := l.all (([48, 46] : List UInt8).contains ·)
theorem isNought_any (s : ByteArray) (hs : s.size <= 1000000) (w : World) : Calls Tryz.prog 72 #[.string s] w fun e w' => e = .returned (.bool (noughtB s.data.toList)) /\ Grow w w' := by
 obtain ⟨T, hT⟩ : ∃ T : ByteArray, T = ⟨(Lib.trimS s.data.toList (⟨#[48, 46]⟩ : ByteArray).data.toList).toArray⟩ := ⟨_, rfl⟩
 have K := Lib.hid (fun W => trimZ s ⟨#[48, 46]⟩ W (by omega) (by decide) (by decide))
 rw [<- hT] at K
 have HT : Hid ((T.toList == []) = noughtB s.data.toList) := by
  show _ = _
  rw [str_nil, hT]
  have := trim_all s.data.toList [48, 46]
  show decide (Lib.trimS s.data.toList [48, 46] = []) = _
  cases h : noughtB s.data.toList with
  | true => exact decide_eq_true (this.2 h)
  | false => exact decide_eq_false (fun e => by rw [show noughtB s.data.toList = true from this.1 e] at h; cases h)
 generalize noughtB s.data.toList = R at *
 clear hT
 have hr := HT.out
 go_enter Tryz.func72, Tryz.ntmps72
 go_wp2_with fail
 refine (K.out _).mono ?_
 rintro e w2 ⟨rfl, g⟩
 have G : Hid (Grow w w2) := g
 clear g
 go_wp2
 go_ret
 exact ⟨rfl, G.out⟩
end Go.Proofs.YtpfiejmhnkcjbaaGreatDoor.D6
namespace Go.Proofs.YtpfiejmhnkcjbaaGreatDoor.D6
set_option maxRecDepth 8000
open Go.RowKit
set_option linter.unusedVariables false
def numL (l : List UInt8) : Nat := l.foldl (fun n b => n * 10 + (b.toNat - 48)) 0
theorem numL_snoc (l : List UInt8) (b : UInt8) : numL (l ++ [b]) = numL l * 10 + (b.toNat - 48) := by simp [numL, List.foldl_append]
theorem numL_lt : ∀ (n : Nat) (l : List UInt8), l.length = n -> l.all dig10 = true -> numL l < 10 ^ n
 | 0, l, h, _ => by
   obtain rfl := List.eq_nil_of_length_eq_zero h
   decide
 | n + 1, l, h, ha => by
   obtain ⟨r, b, rfl⟩ : ∃ r b, l = r ++ [b] := ⟨l.dropLast, l.getLast (by intro e; rw [e] at h; cases h), (List.dropLast_concat_getLast _).symm⟩
   rw [List.length_append] at h
   rw [List.all_append, Bool.and_eq_true] at ha
   have h1 := numL_lt n r (by simpa using h) ha.1
   have h2 : dig10 b = true := by simpa using ha.2
   unfold dig10 at h2
   rw [decide_eq_true_eq] at h2
   rw [numL_snoc, Nat.pow_succ]
   omega
theorem wordOf_any (s : ByteArray) (hs : s.size <= 19) (hd : s.data.toList.all dig10 = true) (w : World) : Calls Tryz.prog 74 #[.string s] w fun e w' => e = .returned (.int .u64 (numL s.data.toList : Int)) /\ w' = w := by
 have HD := Lib.hid hd
 clear hd
 go_enter Tryz.func74, Tryz.ntmps74
 go_wp2
 go_loopw [3, 7] (fun p q wr => ∃ i v : Nat, i <= s.size /\ p = .int .u64 (v : Int) /\ q = .int .i64 (i : Int) /\ wr = w /\ Hid (numL (s.data.toList.take i) = v)) (fun _ q _ => s.size - (intOf q).toNat)
 case atStart => exact ⟨0, 0, Nat.zero_le _, rfl, rfl, rfl, rfl⟩
 case round =>
  obtain ⟨i, v, hi, rfl, rfl, rfl, HV⟩ := hrel
  by_cases hlt : i < s.size
  case neg =>
   go_wp2
   go_ret
   have e : i = s.size := by omega
   subst e
   refine ⟨?_, rfl⟩
   have h := HV.out
   rw [size_list, List.take_length] at h
   rw [h]
   rfl
  have hl : i < s.data.toList.length := by rw [<- size_list]; exact hlt
  have eb : (s[i]'hlt) = s.data.toList[i] := byte_at s i hlt hl
  have hb : 48 <= (s[i]'hlt).toNat /\ (s[i]'hlt).toNat <= 57 := by
   rw [eb]
   have := List.all_eq_true.1 HD.out _ (List.getElem_mem hl)
   unfold dig10 at this
   rwa [decide_eq_true_eq] at this
  have hn : numL (s.data.toList.take (i + 1)) = v * 10 + ((s[i]'hlt).toNat - 48) := by
   rw [List.take_add_one, List.getElem?_eq_getElem hl, Option.toList_some, numL_snoc, HV.out, eb]
  have hm : v * 10 + ((s[i]'hlt).toNat - 48) < 18446744073709551616 := by
   rw [<- hn]
   have h1 := numL_lt (s.data.toList.take (i + 1)).length _ rfl (List.all_eq_true.2 fun x hx => List.all_eq_true.1 HD.out x (List.mem_of_mem_take hx))
   have h2 : (s.data.toList.take (i + 1)).length <= 19 := by
    rw [List.length_take, <- size_list]
    omega
   exact Nat.lt_of_lt_of_le h1 (Nat.le_trans (pow_le h2) (by decide))
  have HN := Lib.hid hn
  clear hn eb hl
  obtain ⟨b0, b1⟩ := hb
  go_wp2
  go_roundw
  case rel => exact ⟨i + 1, v * 10 + ((s[i]'hlt).toNat - 48), by omega, by go_num, by go_num, trivial, HN.out⟩
  case measure => simp [intOf]; omega
end Go.Proofs.YtpfiejmhnkcjbaaGreatDoor.D6
namespace Go.Proofs.YtpfiejmhnkcjbaaGreatDoor.D6
set_option maxHeartbeats 1000000
set_option maxRecDepth 8000
open Go.RowKit
set_option linter.unusedVariables false
theorem mulW (x y h l : Nat) (hx : x < 18446744073709551616) (hy : y < 18446744073709551616) (hw : Wd h l (x * y)) (w : World) :
 Calls Tryz.prog 81 #[.int .u64 (x : Int), .int .u64 (y : Int)] w fun e w' => e = .returned (.tuple #[.int .u64 (h : Int), .int .u64 (l : Int)]) /\ w' = w := by
 have k := mul60 x y hx hy w
 rw [show x * y / 18446744073709551616 = h by rw [<- hw.eq]; have := hw.l1; omega, show x * y % 18446744073709551616 = l by rw [<- hw.eq]; have := hw.l1; omega] at k
 exact k
theorem by_t (h l p ch cl hl h'  : Nat) (b : Bool)
 (K1 : Hid (∀ W, Calls Tryz.prog 81 #[.int .u64 (l : Int), .int .u64 (p : Int)] W fun e w' => e = .returned (.tuple #[.int .u64 (ch : Int), .int .u64 (cl : Int)]) /\ w' = W))
 (K2 : Hid (∀ W, Calls Tryz.prog 81 #[.int .u64 (h : Int), .int .u64 (p : Int)] W fun e w' => e = .returned (.tuple #[.int .u64 0, .int .u64 (hl : Int)]) /\ w' = W))
 (K3 : Hid (∀ W, (callFunc 82 #[.int .u64 (hl : Int), .int .u64 (ch : Int), .int .u64 0]).run Tryz.prog W = .ok (.value (.tuple #[.int .u64 (h' : Int), .int .u64 0])) W)) (w : World) :
 Calls Tryz.prog 57 #[.agg #[.int .u64 (h : Int), .int .u64 (l : Int), .bool b], .int .u64 (p : Int)] w fun e w' => e = .returned (.tuple #[.agg #[.int .u64 (h' : Int), .int .u64 (cl : Int), .bool b], .bool true]) /\ Grow w w' := by
 have k3 := K3.out
 clear K3
 go_enter Tryz.func57, Tryz.ntmps57
 go_wp2_with fail
 refine (K1.out _).mono ?_
 rintro e w' ⟨rfl, rfl⟩
 go_wp2_with fail
 refine (K2.out _).mono ?_
 rintro e w' ⟨rfl, rfl⟩
 go_wp2
 exact bodyPost_ret (res_two rfl _ (w.heap.size + 1) 75 _ _ rfl (blk_at (by simp)) Tryz.underlying75 rfl sR) rfl ⟨rfl, ((Grow.refl _).alloc _).alloc _⟩
theorem by_c (h l p ch cl hl h'  : Nat) (b : Bool)
 (K1 : Hid (∀ W, Calls Tryz.prog 81 #[.int .u64 (l : Int), .int .u64 (p : Int)] W fun e w' => e = .returned (.tuple #[.int .u64 (ch : Int), .int .u64 (cl : Int)]) /\ w' = W))
 (K2 : Hid (∀ W, Calls Tryz.prog 81 #[.int .u64 (h : Int), .int .u64 (p : Int)] W fun e w' => e = .returned (.tuple #[.int .u64 0, .int .u64 (hl : Int)]) /\ w' = W))
 (K3 : Hid (∀ W, (callFunc 82 #[.int .u64 (hl : Int), .int .u64 (ch : Int), .int .u64 0]).run Tryz.prog W = .ok (.value (.tuple #[.int .u64 (h' : Int), .int .u64 1])) W)) (w : World) :
 Calls Tryz.prog 57 #[.agg #[.int .u64 (h : Int), .int .u64 (l : Int), .bool b], .int .u64 (p : Int)] w fun e w' => e = .returned (.tuple #[.agg #[.int .u64 (h' : Int), .int .u64 (cl : Int), .bool b], .bool false]) /\ Grow w w' := by
 have k3 := K3.out
 clear K3
 go_enter Tryz.func57, Tryz.ntmps57
 go_wp2_with fail
 refine (K1.out _).mono ?_
 rintro e w' ⟨rfl, rfl⟩
 go_wp2_with fail
 refine (K2.out _).mono ?_
 rintro e w' ⟨rfl, rfl⟩
 go_wp2
 exact bodyPost_ret (res_two rfl _ (w.heap.size + 1) 75 _ _ rfl (blk_at (by simp)) Tryz.underlying75 rfl sR) rfl ⟨rfl, ((Grow.refl _).alloc _).alloc _⟩
theorem by_h (h l p ch cl hl h' hh c : Nat) (b : Bool) (hne : ¬ hh = 0)
 (K1 : Hid (∀ W, Calls Tryz.prog 81 #[.int .u64 (l : Int), .int .u64 (p : Int)] W fun e w' => e = .returned (.tuple #[.int .u64 (ch : Int), .int .u64 (cl : Int)]) /\ w' = W))
 (K2 : Hid (∀ W, Calls Tryz.prog 81 #[.int .u64 (h : Int), .int .u64 (p : Int)] W fun e w' => e = .returned (.tuple #[.int .u64 (hh : Int), .int .u64 (hl : Int)]) /\ w' = W))
 (K3 : Hid (∀ W, (callFunc 82 #[.int .u64 (hl : Int), .int .u64 (ch : Int), .int .u64 0]).run Tryz.prog W = .ok (.value (.tuple #[.int .u64 (h' : Int), .int .u64 (c : Int)])) W)) (w : World) :
 Calls Tryz.prog 57 #[.agg #[.int .u64 (h : Int), .int .u64 (l : Int), .bool b], .int .u64 (p : Int)] w fun e w' => e = .returned (.tuple #[.agg #[.int .u64 (h' : Int), .int .u64 (cl : Int), .bool b], .bool false]) /\ Grow w w' := by
 have k3 := K3.out
 clear K3
 go_enter Tryz.func57, Tryz.ntmps57
 go_wp2_with fail
 refine (K1.out _).mono ?_
 rintro e w' ⟨rfl, rfl⟩
 go_wp2_with fail
 refine (K2.out _).mono ?_
 rintro e w' ⟨rfl, rfl⟩
 go_wp2
 exact bodyPost_ret (res_two rfl _ (w.heap.size + 1) 75 _ _ rfl (blk_at (by simp)) Tryz.underlying75 rfl sR) rfl ⟨rfl, ((Grow.refl _).alloc _).alloc _⟩
theorem byR (h l m p h' l' : Nat) (b ok : Bool) (a : Wd h l m) (hp : p < 18446744073709551616) (s : Wd h' l' ((m * p) % 340282366920938463463374607431768211456)) (hk : decide (m * p < 340282366920938463463374607431768211456) = ok) (w : World) :
 Calls Tryz.prog 57 #[.agg #[.int .u64 (h : Int), .int .u64 (l : Int), .bool b], .int .u64 (p : Int)] w fun e w' => e = .returned (.tuple #[.agg #[.int .u64 (h' : Int), .int .u64 (l' : Int), .bool b], .bool ok]) /\ Grow w w' := by
 have m1 : l * p < 340282366920938463463374607431768211456 := Nat.lt_of_lt_of_le (Nat.mul_lt_mul'' a.l1 hp) (by decide)
 have m2 : h * p < 340282366920938463463374607431768211456 := Nat.lt_of_lt_of_le (Nat.mul_lt_mul'' a.h1 hp) (by decide)
 obtain ⟨ch, cl, W1⟩ := wd_of (l * p) m1
 obtain ⟨hh, hl, W2⟩ := wd_of (h * p) m2
 have e0 : m * p = (h * p) * 18446744073709551616 + l * p := by rw [<- a.eq, Nat.add_mul, Nat.mul_right_comm]
 have K1 : ∀ W, _ := fun W => mulW l p ch cl a.l1 hp W1 W
 have K2 : ∀ W, _ := fun W => mulW h p hh hl a.h1 hp W2 W
 have e1 := W1.eq
 have e2 := W2.eq
 have e3 := s.eq
 generalize h * p = X at *
 generalize l * p = Y at *
 generalize m * p = T at *
 have x1 := W1.l1
 have x2 := W1.h1
 have x3 := W2.l1
 have x4 := W2.h1
 have x5 := s.l1
 have x6 := s.h1
 obtain rfl : l' = cl := by omega
 have K3 : ∀ W, (callFunc 82 #[.int .u64 (hl : Int), .int .u64 (ch : Int), .int .u64 0]).run Tryz.prog W = .ok (.value (.tuple #[.int .u64 (h' : Int), .int .u64 (((hl + ch) / 18446744073709551616 : Nat) : Int)])) W := fun W => by
  have := add64 hl ch 0 x3 x2 (by omega) W
  rw [Nat.add_zero, show (hl + ch) % 18446744073709551616 = h' by omega] at this
  exact this
 by_cases z : hh = 0
 . subst z
   by_cases c0 : hl + ch < 18446744073709551616
   . rw [show (hl + ch) / 18446744073709551616 = 0 by omega] at K3
     obtain rfl : ok = true := by rw [<- hk]; simp; omega
     exact by_t h l p ch l' hl h' b K1 K2 K3 w
   . rw [show (hl + ch) / 18446744073709551616 = 1 by omega] at K3
     obtain rfl : ok = false := by rw [<- hk]; simp; omega
     exact by_c h l p ch l' hl h' b K1 K2 K3 w
 . obtain rfl : ok = false := by rw [<- hk]; simp; omega
   exact by_h h l p ch l' hl h' hh _ b z K1 K2 K3 w
theorem add_st (h1 l1 h2 l2 h l c : Nat) (b1 b2 : Bool)
 (K1 : Hid (∀ W, (callFunc 82 #[.int .u64 (l1 : Int), .int .u64 (l2 : Int), .int .u64 0]).run Tryz.prog W = .ok (.value (.tuple #[.int .u64 (l : Int), .int .u64 (c : Int)])) W)) (K2 : Hid (∀ W, (callFunc 82 #[.int .u64 (h1 : Int), .int .u64 (h2 : Int), .int .u64 (c : Int)]).run Tryz.prog W = .ok (.value (.tuple #[.int .u64 (h : Int), .int .u64 0])) W)) (w : World) :
 Calls Tryz.prog 58 #[.agg #[.int .u64 (h1 : Int), .int .u64 (l1 : Int), .bool b1], .agg #[.int .u64 (h2 : Int), .int .u64 (l2 : Int), .bool b1]] w fun e w' => e = .returned (.tuple #[.agg #[.int .u64 (h : Int), .int .u64 (l : Int), .bool b1], .bool true]) /\ Grow w w' := by
 have k1 := K1.out
 have k2 := K2.out
 clear K1 K2
 go_enter Tryz.func58, Tryz.ntmps58
 go_wp2
 exact bodyPost_ret (res_two rfl _ (w.heap.size + 2) 75 _ _ rfl (blk_at (by simp)) Tryz.underlying75 rfl sR) rfl ⟨rfl, (((Grow.refl _).alloc _).alloc _).alloc _⟩
theorem add_sf (h1 l1 h2 l2 h l c : Nat) (b1 b2 : Bool)
 (K1 : Hid (∀ W, (callFunc 82 #[.int .u64 (l1 : Int), .int .u64 (l2 : Int), .int .u64 0]).run Tryz.prog W = .ok (.value (.tuple #[.int .u64 (l : Int), .int .u64 (c : Int)])) W)) (K2 : Hid (∀ W, (callFunc 82 #[.int .u64 (h1 : Int), .int .u64 (h2 : Int), .int .u64 (c : Int)]).run Tryz.prog W = .ok (.value (.tuple #[.int .u64 (h : Int), .int .u64 1])) W)) (w : World) :
 Calls Tryz.prog 58 #[.agg #[.int .u64 (h1 : Int), .int .u64 (l1 : Int), .bool b1], .agg #[.int .u64 (h2 : Int), .int .u64 (l2 : Int), .bool b1]] w fun e w' => e = .returned (.tuple #[.agg #[.int .u64 (h : Int), .int .u64 (l : Int), .bool b1], .bool false]) /\ Grow w w' := by
 have k1 := K1.out
 have k2 := K2.out
 clear K1 K2
 go_enter Tryz.func58, Tryz.ntmps58
 go_wp2
 exact bodyPost_ret (res_two rfl _ (w.heap.size + 2) 75 _ _ rfl (blk_at (by simp)) Tryz.underlying75 rfl sR) rfl ⟨rfl, (((Grow.refl _).alloc _).alloc _).alloc _⟩
theorem addR_same (h1 l1 m1 h2 l2 m2 h l : Nat) (b ok : Bool) (a : Wd h1 l1 m1) (a2 : Wd h2 l2 m2) (s : Wd h l ((m1 + m2) % 340282366920938463463374607431768211456)) (hk : decide (m1 + m2 < 340282366920938463463374607431768211456) = ok) (w : World) :
 Calls Tryz.prog 58 #[.agg #[.int .u64 (h1 : Int), .int .u64 (l1 : Int), .bool b], .agg #[.int .u64 (h2 : Int), .int .u64 (l2 : Int), .bool b]] w fun e w' => e = .returned (.tuple #[.agg #[.int .u64 (h : Int), .int .u64 (l : Int), .bool b], .bool ok]) /\ Grow w w' := by
 have x1 := a.eq
 have x2 := a2.eq
 have x3 := s.eq
 have y1 := a.l1
 have y2 := a.h1
 have y3 := a2.l1
 have y4 := a2.h1
 have y5 := s.l1
 have y6 := s.h1
 obtain ⟨c, hc⟩ : ∃ c, (l1 + l2) / 18446744073709551616 = c := ⟨_, rfl⟩
 have K1 : ∀ W, _ := fun W => add64 l1 l2 0 y1 y3 (by omega) W
 have K2 : ∀ W, _ := fun W => add64 h1 h2 c y2 y4 (by omega) W
 rw [Nat.add_zero, hc, show (l1 + l2) % 18446744073709551616 = l by omega] at K1
 rw [show (h1 + h2 + c) % 18446744073709551616 = h by omega] at K2
 by_cases z : m1 + m2 < 340282366920938463463374607431768211456
 . rw [show (h1 + h2 + c) / 18446744073709551616 = 0 by omega] at K2
   obtain rfl : ok = true := by rw [<- hk]; simp; omega
   exact add_st h1 l1 h2 l2 h l c b b K1 K2 w
 . rw [show (h1 + h2 + c) / 18446744073709551616 = 1 by omega] at K2
   obtain rfl : ok = false := by rw [<- hk]; simp; omega
   exact add_sf h1 l1 h2 l2 h l c b b K1 K2 w
end Go.Proofs.YtpfiejmhnkcjbaaGreatDoor.D6
namespace Go.Proofs.YtpfiejmhnkcjbaaGreatDoor.D6
open Go.RowKit
set_option linter.unusedVariables false
def Anyw : World -> Prop := fun _ => True
theorem anyw_p (w : World) (p : Prop) : (∀ W, Anyw W -> p) ↔ p := ⟨fun h => h w trivial, fun h _ _ => h⟩
section
variable {P : Program} {ops : Array Oper} {Z : List Nat} {Q : Exit -> Act -> World -> Prop}
theorem anyR_free {i : Nat} {oi : Oper} {v : Value} (hi : ops[i]? = some oi) (hsel : Region.noSelect ops = true) (hQ : ∀ c (a : Act) (d : Option Tmp) v w, Q (.panic c) (a.put d v) w -> Q (.panic c) a w) :
 ∀ (n : Nat) (listed : Array Bool) (a : Act) (w : World),
   (∀ j oj, ops[j]? = some oj -> j ≠ i -> listed.getD j true = false -> (∀ e ∈ oj.after, Region.binds .any e = true -> e.on ≠ i) -> oi.apart ops oj = true) ->
   i ∈ Region.ready .any ops listed -> Pur P ops Anyw oi v a -> anyR P ops Z Q n (listed.setIfInBounds i true) (a.put oi.dst v) w -> anyR P ops Z Q (n + 1) listed a w := by
 intro n
 induction n with
 | zero =>
   intro listed a w _ hr hy H w' hw'
   refine ⟨fun h => absurd hr (by rw [h]; exact List.not_mem_nil), fun j hj => ?_⟩
   by_cases e : j = i
   . subst e
     exact hy.op hi trivial fun w'' hg => ⟨.inr hg, anyR_grow H (hw'.trans hg)⟩
   . have := ready_mono hj e
     rw [(H w' hw').1] at this
     exact absurd this List.not_mem_nil
 | succ n ih =>
   intro listed a w hfree hr hy H w' hw'
   refine ⟨fun h => absurd hr (by rw [h]; exact List.not_mem_nil), fun j hj => ?_⟩
   by_cases e : j = i
   . subst e
     exact hy.op hi trivial fun w'' hg => ⟨.inr hg, anyR_grow H (hw'.trans hg)⟩
   . obtain ⟨hun, oj, hoj, hall⟩ := mem_ready.1 hj
     have hi0 := (mem_ready.1 hr).1
     have hnot : ∀ e ∈ oj.after, Region.binds .any e = true -> e.on ≠ i := fun ed he hb heq => by
      have h1 := hall ed he hb
      rw [heq, Array.getD_eq_getD_getElem?] at h1
      rw [Array.getD_eq_getD_getElem?] at hi0
      cases hg : listed[i]? with
      | none => rw [hg] at hi0; cases hi0
      | some b => rw [hg] at h1 hi0; simp at h1 hi0; rw [h1] at hi0; cases hi0
     have h2 := put_firstR hoj (hfree j oj hoj e hun hnot) (fun cs b => Region.noSelect_spec hsel i oi cs b hi) (fun cs b => Region.noSelect_spec hsel j oj cs b hoj) hQ hy ((H w' hw').2 j (ready_mono hj e))
     refine wpOp_mono (fun a' w'' h3 => ⟨h3.2.1, ih (listed.setIfInBounds j true) a' w'' (fun k ok hk hki hku hno => hfree k ok hk hki ?_ hno) (ready_mono hr (Ne.symm e)) h3.1 ?_⟩) h2
     . by_cases hjk : j = k
       . rw [<- hjk]; exact hun
       . rw [getD_set_ne true hjk] at hku; exact hku
     . rw [Array.setIfInBounds_comm _ _ e]
       exact h3.2.2
def segFB (ops : Array Oper) : Array Bool -> List Nat -> Bool
 | _, [] => true
 | listed, i :: r => (Region.ready .any ops listed).contains i && (Region.free .any ops listed i && ((match ops[i]? with | some o => atOnce o.op | none => false) && segFB ops (listed.setIfInBounds i true) r))
theorem calm_segF (hsel : Region.noSelect ops = true) (hQ : ∀ c (a : Act) (d : Option Tmp) v w, Q (.panic c) (a.put d v) w -> Q (.panic c) a w) {w : World} (n : Nat) : ∀ (l : List Nat) (L : List Oper) (listed : Array Bool) (a : Act), segFB ops listed l = true -> l.map (fun i => ops[i]?) = L.map some ->
 wpQuiet P ops Anyw (fun a' => anyR P ops Z Q n (marks listed l) a' w) L a -> anyR P ops Z Q (n + l.length) listed a w
 | [], [], _, _, _, _, h => h
 | [], _ :: _, _, _, _, e, _ => by cases e
 | _ :: _, [], _, _, _, e, _ => by cases e
 | i :: l, o :: L, listed, a, hB, e, h => by
   simp only [List.map_cons, List.cons.injEq] at e
   obtain ⟨e0, e1⟩ := e
   simp only [segFB, e0, Bool.and_eq_true] at hB
   obtain ⟨hr, hf, ho, hB'⟩ := hB
   have go : ∀ v, Calm P ops Anyw o v a -> wpQuiet P ops Anyw (fun a' => anyR P ops Z Q n (marks (listed.setIfInBounds i true) l) a' w) L (a.put o.dst v) -> anyR P ops Z Q (n + (i :: l).length) listed a w := fun v hy h' => by
    have hp : Pur P ops Anyw o v a := by
     rcases hy with ⟨h1, h2⟩ | h2
     . exact .inl ⟨h1, fun w hw => by rw [h2 w hw]; exact ⟨rfl, rfl⟩⟩
     . exact .inr h2
    exact anyR_free e0 hsel hQ (n + l.length) listed a w (Region.free_spec e0 hf) (by simpa using hr) hp (calm_segF hsel hQ n l L _ _ hB' e1 h')
   by_cases hw : Region.wanted o (yielded ops a.tmps) = true
   . have h' : o.quiet P a Anyw (wpQuiet P ops Anyw (fun a' => anyR P ops Z Q n (marks (listed.setIfInBounds i true) l) a' w) L) := by
      have := h
      unfold wpQuiet at this
      rw [if_pos hw] at this
      exact this
     obtain ⟨v, hy, hk⟩ := Calm.of_quiet ho hw h'
     exact go v hy hk
   . have h' : wpQuiet P ops Anyw (fun a' => anyR P ops Z Q n (marks (listed.setIfInBounds i true) l) a' w) L (a.put o.dst undef) := by
      have := h
      unfold wpQuiet at this
      rw [if_neg hw] at this
      exact this
     exact go undef (.inr ⟨by simpa using hw, rfl⟩) h'
theorem segF {L : List Oper} {n : Nat} {listed : Array Bool} {a : Act} {w : World} (N : Nat) (l : List Nat) (hn : n = N + l.length) (hsel : Region.noSelect L.toArray = true) (hQ : ∀ c (a : Act) (d : Option Tmp) v w, Q (.panic c) (a.put d v) w -> Q (.panic c) a w)
 (hB : segFB L.toArray listed l = true) (h : wpQuiet P L.toArray Anyw (fun a' => anyR P L.toArray Z Q N (marks listed l) a' w) (picks L l) a) : anyR P L.toArray Z Q n listed a w := by
 subst hn
 refine calm_segF hsel hQ N l (picks L l) listed a hB ?_ h
 clear h
 induction l generalizing listed with
 | nil => rfl
 | cons i r ih =>
   simp only [segFB, Bool.and_eq_true] at hB
   have h1 := ih hB.2.2.2
   have h2 := hB.2.2.1
   rw [List.getElem?_toArray, <- nth_eq] at h2
   unfold picks
   cases hg : nth L i with
   | none => rw [hg] at h2; cases h2
   | some o =>
     simp only [List.map_cons]
     rw [h1, List.getElem?_toArray, <- nth_eq, hg]
end
end Go.Proofs.YtpfiejmhnkcjbaaGreatDoor.D6
