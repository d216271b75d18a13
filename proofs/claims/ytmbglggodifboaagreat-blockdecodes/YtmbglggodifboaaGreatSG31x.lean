import Derived.Test.YtmbglggodifboaaGreatSG28x
import Derived.Test.YtmbglggodifboaaGreatSG11x
import Derived.Test.YtmbglggodifboaaGreatSG2x
import Derived.Test.YtmbglggodifboaaGreatSXp
import Derived.Test.YtmbglggodifboaaGreatSEql
import Derived.Test.YtmbglggodifboaaGreatSG6x
import Derived.Test.YtmbglggodifboaaGreatSG12x
import Derived.Test.YtmbglggodifboaaGreatSG25x
import Derived.Laws.BytesArg
set_option maxHeartbeats 1000000
set_option maxRecDepth 8000
set_option linter.unusedSimpArgs false
set_option linter.unusedVariables false
namespace Go.Proofs.YtmbglggodifboaaGreat
open Go.RowKit Math
def noV : Vt := lf 0 0 0 em
def decE (L : List Nat) : Int := match rdV 16 L with
 | .error e => (e : Int)
 | .ok (p, rest) => if chk0V p ≠ 0 then chk0V p else if rest ≠ [] then 3 else if 65536 < L.length then 5 else 0
def decP (L : List Nat) : Vt := match rdV 16 L with
 | .error _ => noV
 | .ok (p, _) => if decE L = 0 then p else noV
theorem dec_no {L : List Nat} {p : Vt} {j : Nat} {E : Int} (h : Fst L p j E) (hE : E ≠ 0) : decE L = E /\ decP L = noV := by
 rcases h with ⟨e, h1, h2, h3⟩ | ⟨h1, h2, h3⟩
 . unfold decP decE
   rw [h1]
   exact ⟨h2.symm, rfl⟩
 . have e : decE L = E := by
    unfold decE
    rw [h1]
    simp only
    rw [<- h3, if_pos hE]
   refine ⟨e, ?_⟩
   unfold decP
   rw [h1]
   simp only
   rw [e, if_neg hE]
theorem fst_yes {L : List Nat} {p : Vt} {j : Nat} (h : Fst L p j 0) : rdV 16 L = .ok (p, L.drop j) /\ chk0V p = 0 := by
 rcases h with ⟨e, h1, h2, h3⟩ | ⟨h1, h2, h3⟩
 . omega
 . exact ⟨h1, h3.symm⟩
theorem dec_more {L : List Nat} {p : Vt} {j : Nat} (h : Fst L p j 0) (hj : j < L.length) : decE L = 3 /\ decP L = noV := by
 obtain ⟨h1, h2⟩ := fst_yes h
 have e : decE L = 3 := by
  unfold decE
  rw [h1]
  simp only
  rw [if_neg (by simpa using h2), if_pos (by intro c; have := congrArg List.length c; simp at this; omega)]
 refine ⟨e, ?_⟩
 unfold decP
 rw [h1]
 simp only
 rw [e]
 rfl
theorem dec_long {L : List Nat} {p : Vt} {j : Nat} (h : Fst L p j 0) (hj : L.length <= j) (hl : 65536 < L.length) : decE L = 5 /\ decP L = noV := by
 obtain ⟨h1, h2⟩ := fst_yes h
 have e : decE L = 5 := by
  unfold decE
  rw [h1]
  simp only
  rw [if_neg (by simpa using h2), if_neg (by rw [List.drop_of_length_le hj]; simp), if_pos hl]
 refine ⟨e, ?_⟩
 unfold decP
 rw [h1]
 simp only
 rw [e]
 rfl
theorem dec_yes {L : List Nat} {p : Vt} {j : Nat} (h : Fst L p j 0) (hj : L.length <= j) (hl : ¬ 65536 < L.length) : decE L = 0 /\ decP L = p := by
 obtain ⟨h1, h2⟩ := fst_yes h
 have e : decE L = 0 := by
  unfold decE
  rw [h1]
  simp only
  rw [if_neg (by simpa using h2), if_neg (by rw [List.drop_of_length_le hj]; simp), if_neg hl]
 refine ⟨e, ?_⟩
 unfold decP
 rw [h1]
 simp only
 rw [e]
 rfl
structure New1 (W w' : World) (p : Vt) (na : Option Addr) (nc : Nat) (ka : Option Addr) (kc : Nat) : Prop where
 vl : ∃ Lp, VlL w' p na nc ka kc Lp /\ ∀ x ∈ Lp, W.heap.size <= x /\ x < w'.heap.size
 wf : WfV p
 bl : Below W.heap.size W w'
theorem New1.none {W w' : World} (h : Below W.heap.size W w') : New1 W w' noV none 0 none 0 :=
 ⟨⟨[], vl_lf w' 0 0 0 em, by simp⟩, wf_lf 0 0 0 em (by omega) (by omega) (by omega) (by decide), h⟩
theorem decode_any (L : List Nat) (V : ValL L) (ab : Option Addr) (cb : Nat) (W : World) (hB : Byt W ab L) (hO : Oct L) (hlen : L.length <= 1000000) (hcap : L.length <= cb) (hcm : cb <= 9223372036854775807) (hnil : ab = none -> cb = 0) :
 Calls Tryz.prog 83 #[.slice ab L.length cb] W fun e w' => ∃ na nc ka kc, e = .returned (.tuple #[.agg #[.int .i64 (decP L).1.k, .int .i64 (decP L).1.n, .int .i64 (decP L).1.s, .string (decP L).1.t, .slice na (decP L).1.ns.length nc, .slice ka (decP L).2.list.length kc], .int .i64 (decE L)]) /\ Hid (New1 W w' (decP L) na nc ka kc) := by
 have HA : Hid (ValL L /\ Byt W ab L /\ Oct L /\ (ab = none -> cb = 0)) := ⟨V, hB, hO, hnil⟩
 clear hB hO hnil V
 go_enter Tryz.func83, Tryz.ntmps83
 go_wp2_with (refine al_zero rfl 48 rfl zer z25 ?_)
 intro g2 w1 hg2 B2 gr2
 have G1 : Hid (Below W.heap.size W w1) := (Below.refl _ _).grown gr2 (Nat.le_refl _) (fun k e => by cases e)
 have HB2 : Hid (Blk w1 g2 48 zer) := B2
 have KF := first_any L HA.out.1 ab cb w1 (HA.out.2.1.below G1.out) HA.out.2.2.1 hlen hcap hcm HA.out.2.2.2
 clear B2 gr2
 go_wp2_with fail
 refine KF.mono ?_
 clear KF HA
 rintro e w3 ⟨p, na, nc, ka, kc, j, E, rfl, H3⟩
 go_wp2_with (refine al_zero rfl 48 rfl zer z25 ?_)
 intro g4 w4 hg4 B4 gr4
 go_wp2_with (refine st_all rfl 48 (.tmp 4) (.tmp 10) rfl g4 48 zer (six p.1 na nc ka p.2.list.length kc) rfl rfl B4 rfl s25 (six_one _ _ _ _ _ _) ?_)
 intro w5 B5 gr5
 have G5 : Hid (Below w3.heap.size w3 w5) := below_new gr4 hg4 gr5
 have GW5 : Hid (Below W.heap.size W w5) := by
  have h3 := G1.out.trans (H3.out.bl.mono G1.out.size)
  exact h3.trans (G5.out.mono h3.size)
 have HB5 : Hid (Blk w5 g2 48 zer) := by
  have b3 := HB2.out.below H3.out.bl HB2.out.lt
  exact b3.below G5.out b3.lt
 have HB4 : Hid (Blk w5 g4 48 (six p.1 na nc ka p.2.list.length kc)) := B5
 have h2l : g2 < w1.heap.size := HB2.out.lt
 have HV5 : Hid ((∃ Lp, VlL w5 p na nc ka kc Lp /\ ∀ x ∈ Lp, W.heap.size <= x /\ x < w5.heap.size /\ x ≠ g2) /\ WfV p) := by
  refine ⟨?_, H3.out.wf⟩
  obtain ⟨Lp, a1, a2⟩ := H3.out.vl
  refine ⟨Lp, a1.keep fun x hx => G5.out.block x (a2 x hx).2, fun x hx => ?_⟩
  have := a2 x hx
  have := G5.out.size
  have := G1.out.size
  omega
 have HF : Hid (Fst L p j E) := H3.out.fst
 have hj : j <= L.length := H3.out.le
 clear B4 gr4 gr5 B5 G5 H3 HB2 G1
 by_cases hE : E = 0
 case neg =>
  have hEb : (E != 0) = true := by simpa using hE
  go_wp2_with (refine st_all rfl 48 (.tmp 2) (.tmp 15) rfl g2 48 zer zer rfl rfl HB5.out rfl s25 (by simp [zer, Value.oneCell']) ?_)
  intro w6 B6 gr6
  have HN : Hid (New1 W w6 noV none 0 none 0) := .none (GW5.out.grown gr6 GW5.out.size (fun x e => by injection e with e; omega))
  have HB6 : Hid (Blk w6 g2 48 zer) := B6
  clear B6 gr6
  have HD := dec_no HF.out hE
  go_wp2
  refine bodyPost_ret (res_two rfl _ g2 48 _ _ rfl HB6.out Tryz.underlying48 rfl s25) rfl ?_
  rw [HD.1, HD.2]
  exact ⟨none, 0, none, 0, rfl, HN.out⟩
 subst hE
 have hEb : ((0 : Int) != 0) = false := rfl
 by_cases hjl : j < L.length
 . have hjb : decide ((j : Int) < (L.length : Int)) = true := by simp; omega
   go_wp2_with (refine st_all rfl 48 (.tmp 2) (.tmp 21) rfl g2 48 zer zer rfl rfl HB5.out rfl s25 (by simp [zer, Value.oneCell']) ?_)
   intro w6 B6 gr6
   have HN : Hid (New1 W w6 noV none 0 none 0) := .none (GW5.out.grown gr6 GW5.out.size (fun x e => by injection e with e; omega))
   have HB6 : Hid (Blk w6 g2 48 zer) := B6
   clear B6 gr6
   have HD := dec_more HF.out hjl
   go_wp2
   refine bodyPost_ret (res_two rfl _ g2 48 _ _ rfl HB6.out Tryz.underlying48 rfl s25) rfl ?_
   rw [HD.1, HD.2]
   exact ⟨none, 0, none, 0, rfl, HN.out⟩
 have hjb : decide ((j : Int) < (L.length : Int)) = false := by simp; omega
 by_cases hl : 65536 < L.length
 . have hlb : decide ((65536 : Int) < (j : Int)) = true := by simp; omega
   go_wp2_with (refine st_all rfl 48 (.tmp 2) (.tmp 24) rfl g2 48 zer zer rfl rfl HB5.out rfl s25 (by simp [zer, Value.oneCell']) ?_)
   intro w6 B6 gr6
   have HN : Hid (New1 W w6 noV none 0 none 0) := .none (GW5.out.grown gr6 GW5.out.size (fun x e => by injection e with e; omega))
   have HB6 : Hid (Blk w6 g2 48 zer) := B6
   clear B6 gr6
   have HD := dec_long HF.out (by omega) hl
   go_wp2
   refine bodyPost_ret (res_two rfl _ g2 48 _ _ rfl HB6.out Tryz.underlying48 rfl s25) rfl ?_
   rw [HD.1, HD.2]
   exact ⟨none, 0, none, 0, rfl, HN.out⟩
 have hlb : decide ((65536 : Int) < (j : Int)) = false := by simp; omega
 have c0 : w5.cell? ⟨g4, 0, none⟩ = some (.int .i64 p.1.k) := HB4.out.cell 0
 have c1 : w5.cell? ⟨g4, 1, none⟩ = some (.int .i64 p.1.n) := HB4.out.cell 1
 have c2 : w5.cell? ⟨g4, 2, none⟩ = some (.int .i64 p.1.s) := HB4.out.cell 2
 have c3 : w5.cell? ⟨g4, 3, none⟩ = some (.string p.1.t) := HB4.out.cell 3
 have c4 : w5.cell? ⟨g4, 4, none⟩ = some (.slice na p.1.ns.length nc) := HB4.out.cell 4
 have c5 : w5.cell? ⟨g4, 5, none⟩ = some (.slice ka p.2.list.length kc) := HB4.out.cell 5
 go_wp2_with (refine st_all rfl 48 (.tmp 2) (.tmp 25) rfl g2 48 zer (six p.1 na nc ka p.2.list.length kc) rfl rfl HB5.out rfl s25 (six_one _ _ _ _ _ _) ?_)
 intro w6 B6 gr6
 have HN : Hid (New1 W w6 p na nc ka kc) := by
  obtain ⟨Lp, a1, a2⟩ := HV5.out.1
  refine ⟨⟨Lp, a1.keep fun x hx => ?_, fun x hx => ?_⟩, HV5.out.2, GW5.out.grown gr6 GW5.out.size (fun x e => by injection e with e; omega)⟩
  . have := a2 x hx
    exact gr6.block x this.2.1 (by intro c; injection c with c; omega)
  . have := a2 x hx
    have := gr6.size
    omega
 have HB6 : Hid (Blk w6 g2 48 (six p.1 na nc ka p.2.list.length kc)) := B6
 clear B6 gr6 c0 c1 c2 c3 c4 c5
 have HD := dec_yes HF.out (by omega) hl
 go_wp2
 refine bodyPost_ret (res_two rfl _ g2 48 _ _ rfl HB6.out Tryz.underlying48 rfl s25) rfl ?_
 rw [HD.1, HD.2]
 exact ⟨na, nc, ka, kc, rfl, HN.out⟩
open Go.RowKit Go.ChangeShapes Go.WideShapes Math
theorem value_any : ∀ (d : Nat), d <= 16 -> ∀ dp : Int, dp = 17 - (d : Int) -> ValC 105 (rdV d) (fun r => #[.pointer (some ⟨r, 0, none⟩), .int .i64 dp])
 | 0, _, dp, h => val_deep dp (by omega)
 | d + 1, hd, dp, h => by
   have VC := value_any d (by omega) (dp + 1) (by omega)
   exact val_step d dp (by omega) (nest8 d dp (by omega) (by omega) VC) (nest9 d dp (by omega) (by omega) VC)
theorem valL_any {L : List Nat} (h : Sm (rdV 16) L 0) : ValL L := fun w0 W r ab cb hE hb => value_any 16 (Nat.le_refl _) 1 (by omega) w0 W r ab cb L 0 0 hE hb (by omega) (fun _ => h)
theorem sm_short {L : List Nat} (h : L.length <= 65536) : Sm (rdV 16) L 0 := .inl h
theorem sm_enc {p : Vt} (hp : WfV p) (hc : chkV p 1 = 0) (hl : (encV p).length <= 65536) (m : List Nat) : Sm (rdV 16) (encV p ++ m) 0 := .inr ⟨p, m, by rw [List.drop_zero]; exact enc_back p hp hc m, by rw [List.length_append]; omega⟩
theorem enc_ok {p : Vt} (h : encE p = 0) : chkV p 1 = 0 /\ encB p = encV p /\ (encV p).length <= 65536 := by
 by_cases h1 : chkV p 1 = 0
 . by_cases h2 : 65536 < (encV p).length
   . have := (encE_long h1 h2).1
     omega
   . exact ⟨h1, (encE_yes h1 h2).2, by omega⟩
 . have := (encE_no h1).1
   omega
theorem dec_self {p : Vt} (hw : WfV p) (he : encE p = 0) : decE (encV p) = 0 /\ decP (encV p) = p := by
 obtain ⟨h1, h2, h3⟩ := enc_ok he
 have h := enc_back p hw h1 []
 rw [List.append_nil] at h
 have e : decE (encV p) = 0 := by
  unfold decE
  rw [h]
  simp only
  rw [if_neg (by simpa using chk1 h1), if_neg (by simp), if_neg (by omega)]
 refine ⟨e, ?_⟩
 unfold decP
 rw [h]
 simp only
 rw [e]
 rfl
def Nz {α : Type} (f : Rdr α) : Prop := ∀ l, f l ≠ .error 0
theorem nz_ret {α : Type} (x : α) : Nz (Rdr.ret x) := fun l h => by cases h
theorem nz_no {α : Type} {e : Nat} (he : e ≠ 0) : Nz (Rdr.no (α := α) e) := fun l h => he (Except.error.inj h)
theorem nz_bind {α β : Type} {f : Rdr α} {g : α -> Rdr β} (hf : Nz f) (hg : ∀ x, Nz (g x)) : Nz (f.bind g) := fun l h => by
 unfold Rdr.bind at h
 cases e : f l with
 | error x =>
   rw [e] at h
   simp only at h
   have : x = 0 := Except.error.inj h
   exact hf l (by rw [e, this])
 | ok v =>
   obtain ⟨x, m⟩ := v
   rw [e] at h
   exact hg x m h
theorem nz_if {α : Type} {p : Prop} [Decidable p] {f g : Rdr α} (hf : Nz f) (hg : Nz g) : Nz (if p then f else g) := by
 split
 . exact hf
 . exact hg
theorem nz_by : Nz byR := fun l h => by
 cases l with
 | nil => cases h
 | cons a b => cases h
theorem nz_uv : Nz uvR := fun l h => by
 unfold uvR at h
 split at h
 . cases h
 . rename_i c
   exact c (Except.error.inj h)
theorem nz_len : Nz lenR := nz_bind nz_uv fun u => nz_if (nz_no (by decide)) (nz_ret _)
theorem nz_take (n : Nat) : Nz (takeR n) := fun l h => by
 unfold takeR at h
 split at h
 . cases h
 . cases h
theorem nz_tx : Nz txR := nz_bind nz_len fun n => nz_bind (nz_take n) fun b => nz_ret _
theorem nz_N {g : Rdr Vt} (hg : Nz g) (b : Bool) : ∀ n, Nz (rdN g b n)
 | 0 => nz_ret _
 | n + 1 => nz_bind (nz_N hg b n) fun q => nz_if (nz_bind nz_tx fun s => nz_bind hg fun v => nz_ret _) (nz_bind hg fun v => nz_ret _)
theorem rd_nz : ∀ d, Nz (rdV d)
 | 0 => nz_no (by decide)
 | d + 1 => nz_bind nz_by fun k => by
   have ih := rd_nz d
   refine nz_if (nz_ret _) (nz_if (nz_bind nz_by fun x => nz_if (nz_no (by decide)) (nz_ret _)) (nz_if (nz_bind nz_uv fun u => nz_ret _) (nz_if (nz_bind nz_uv fun u => nz_bind nz_by fun x => nz_ret _) (nz_if (nz_bind nz_uv fun u => nz_ret _) (nz_if (nz_bind nz_tx fun u => nz_ret _) (nz_if (nz_bind nz_tx fun u => nz_ret _) (nz_if (nz_bind nz_len fun n => nz_bind (nz_N ih false n) fun q => nz_ret _) (nz_if (nz_bind nz_len fun n => nz_bind (nz_N ih true n) fun q => nz_ret _) (nz_no (by decide))))))))))
theorem dec_inv {l : List Nat} (ho : Oct l) (hl : l.length <= 65536) (h : decE l = 0) : WfV (decP l) /\ encE (decP l) = 0 /\ encB (decP l) = l := by
 have h0 := h
 unfold decE at h
 cases e : rdV 16 l with
 | error x =>
   rw [e] at h
   simp only at h
   have hx : x = 0 := by omega
   exact absurd e (by rw [hx]; exact rd_nz 16 l)
 | ok v =>
   obtain ⟨q, rest⟩ := v
   rw [e] at h
   simp only at h
   have eP : decP l = q := by
    unfold decP
    rw [e]
    simp only
    rw [h0]
    rfl
   rw [eP]
   have F := find_V 16 l q rest ho e
   by_cases hc : chk0V q = 0
   case neg => rw [if_pos hc] at h; exact absurd h hc
   rw [if_neg (by simpa using hc)] at h
   by_cases hr : rest = []
   case neg => rw [if_pos hr] at h; simp at h
   subst hr
   have hw := F.wr hc
   rw [List.append_nil] at hw
   have hd := F.dp
   have h1 : chkV q 1 = 0 := by rw [chkV_flat q 1 (by omega)]; exact hc
   obtain ⟨a, b⟩ := encE_yes h1 (by rw [<- hw]; omega)
   exact ⟨F.wf, a, by rw [b, <- hw]⟩
end Go.Proofs.YtmbglggodifboaaGreat
namespace Go.Proofs.YtmbglggodifboaaGreat.Sh
open Go.RowKit Math Mt
def nR : Rdr Nat := uvR.bind fun u => if 9007199254740992 < u then .no 3 else .ret u
def tR : Rdr ByteArray := nR.bind fun n => (takeR n).bind fun b => .ret (ofB b)
def dvR : Rdr (Vt × Bool) := nR.bind fun n => (takeR n).bind fun d => if decE d = 0 then .ret (decP d, false) else .no 3
def dtR : Rdr (Vt × Bool) := byR.bind fun x => if x = 0 then .ret (nv, true) else if x = 1 then dvR else .no 3
def rvR (k tb dc vr : Nat) (t : ByteArray) (ab ae : Nat) : Rdr En := if k = 2 then (takeR 32).bind fun h => dtR.bind fun d => .ret ⟨k, t, tb, dc, vr, d.1, h, d.2, ab, ae⟩ else .ret ⟨k, t, tb, dc, vr, nv, zr, false, ab, ae⟩
def enR : Rdr En := byR.bind fun k => nR.bind fun tb => nR.bind fun dc => nR.bind fun vr => tR.bind fun t => nR.bind fun ab => nR.bind fun ae => rvR k tb dc vr t ab ae
def esR : Nat -> Rdr (List En)
 | 0 => .ret []
 | n + 1 => (esR n).bind fun l => enR.bind fun e => .ret (l ++ [e])
def bkR : Rdr Bk := nR.bind fun ix => nR.bind fun tm => nR.bind fun tx => (takeR 32).bind fun pv => nR.bind fun n => (esR n).bind fun es => .ret ⟨ix, tm, tx, pv, es⟩
def decB (L : List Nat) : Int := match bkR L with
 | .error e => (e : Int)
 | .ok (b, r) => if r ≠ [] then 3 else if chkB b ≠ 0 then chkB b else if 262144 < L.length then 5 else 0
def noB : Bk := ⟨0, 0, 0, zr, []⟩
def decK (L : List Nat) : Bk := match bkR L with
 | .error _ => noB
 | .ok (b, _) => if decB L = 0 then b else noB
theorem good_n : Good nR := good_bind good_uv fun u => good_if (good_no _) (good_ret _)
theorem good_t : Good tR := good_bind good_n fun n => good_bind (good_take n) fun b => good_ret _
theorem good_dv : Good dvR := good_bind good_n fun n => good_bind (good_take n) fun d => good_if (good_ret _) (good_no _)
theorem good_dt : Good dtR := good_bind good_by fun x => good_if (good_ret _) (good_if good_dv (good_no _))
theorem good_rv (k tb dc vr : Nat) (t : ByteArray) (ab ae : Nat) : Good (rvR k tb dc vr t ab ae) := good_if (good_bind (good_take 32) fun h => good_bind good_dt fun d => good_ret _) (good_ret _)
theorem good_en : Good enR := good_bind good_by fun k => good_bind good_n fun tb => good_bind good_n fun dc => good_bind good_n fun vr => good_bind good_t fun t => good_bind good_n fun ab => good_bind good_n fun ae => good_rv k tb dc vr t ab ae
theorem good_es : ∀ n, Good (esR n)
 | 0 => good_ret _
 | n + 1 => good_bind (good_es n) fun l => good_bind good_en fun e => good_ret _
theorem nz_n : Nz nR := nz_bind nz_uv fun u => nz_if (nz_no (by decide)) (nz_ret _)
theorem nz_t : Nz tR := nz_bind nz_n fun n => nz_bind (nz_take n) fun b => nz_ret _
theorem nz_dv : Nz dvR := nz_bind nz_n fun n => nz_bind (nz_take n) fun d => nz_if (nz_ret _) (nz_no (by decide))
theorem nz_dt : Nz dtR := nz_bind nz_by fun x => nz_if (nz_ret _) (nz_if nz_dv (nz_no (by decide)))
theorem nz_rv (k tb dc vr : Nat) (t : ByteArray) (ab ae : Nat) : Nz (rvR k tb dc vr t ab ae) := nz_if (nz_bind (nz_take 32) fun h => nz_bind nz_dt fun d => nz_ret _) (nz_ret _)
theorem nz_en : Nz enR := nz_bind nz_by fun k => nz_bind nz_n fun tb => nz_bind nz_n fun dc => nz_bind nz_n fun vr => nz_bind nz_t fun t => nz_bind nz_n fun ab => nz_bind nz_n fun ae => nz_rv k tb dc vr t ab ae
theorem nz_es : ∀ n, Nz (esR n)
 | 0 => nz_ret _
 | n + 1 => nz_bind (nz_es n) fun l => nz_bind nz_en fun e => nz_ret _
theorem nz_bk : Nz bkR := nz_bind nz_n fun ix => nz_bind nz_n fun tm => nz_bind nz_n fun tx => nz_bind (nz_take 32) fun pv => nz_bind nz_n fun n => nz_bind (nz_es n) fun es => nz_ret _
theorem reads_n {u : Nat} (h : u <= 9007199254740992) : Reads nR (uv u) u := by
 have := reads_bind (g := fun u => if 9007199254740992 < u then .no 3 else .ret u) (reads_uv u (by omega)) (c2 := []) (y := u) (by rw [if_neg (by omega)]; exact reads_ret u)
 rw [List.append_nil] at this
 exact this
theorem reads_nI {n : Int} (h0 : 0 <= n) (h : n <= 9007199254740992) : Reads nR (uvI n) n.toNat := reads_n (by omega)
theorem reads_take (c : List Nat) : Reads (takeR c.length) c c := fun m => by
 unfold takeR
 rw [if_neg (by simp), List.take_left, List.drop_left]
theorem reads_t {s : ByteArray} (h : s.size <= 9007199254740992) : Reads tR (uv s.size ++ bts s) s := by
 refine reads_bind (reads_n h) ?_
 have h2 := reads_take (bts s)
 rw [bts_len] at h2
 have := reads_to h2 ofB
 rw [ofB_bts] at this
 exact this
theorem reads_dt {e : En} (hw : EnW e) (h : mayE e = 0) (hk : e.k = 2) : Reads dtR (tail e.k (datL e) true) (e.v, e.g) := by
 obtain ⟨d1, d2, d3, d4⟩ := dat_ok h
 cases hg : e.g with
 | true =>
   have hv : e.v = nv := by
    obtain ⟨s, _, _, hr⟩ := form_iff.1 (may_form h)
    unfold restB at hr
    rw [if_pos hk, hg] at hr
    exact (nvB_iff _).1 (by simpa using hr)
   have e1 : tail e.k (datL e) true = [0] := by unfold tail; rw [if_pos hk, if_pos (.inr (d4 (.inr hg)))]
   rw [e1, hv]
   have := reads_bind (g := fun x => if x = 0 then .ret (nv, true) else if x = 1 then dvR else .no 3) (reads_by 0) (c2 := []) (y := (nv, true)) (by rw [if_pos rfl]; exact reads_ret _)
   exact this
 | false =>
   obtain ⟨e1, e2⟩ := d3 hk hg
   have e3 : tail e.k (datL e) true = [1] ++ (uv (datL e).length ++ datL e) := by unfold tail; rw [if_pos hk, if_neg (by simp [e2]), List.append_assoc]
   obtain ⟨q1, q2⟩ := dec_self hw.v (may_data h hk hg).1
   rw [e3]
   refine reads_bind (reads_by 1) ?_
   rw [if_neg (by decide), if_pos rfl]
   refine reads_bind (reads_n (by omega)) ?_
   have := reads_bind (g := fun d => if decE d = 0 then .ret (decP d, false) else .no 3) (reads_take (datL e)) (c2 := []) (y := (e.v, false)) (by rw [e1, if_pos q1, q2]; exact reads_ret _)
   rw [List.append_nil] at this
   exact this
theorem en_eta (e : En) (k : Nat) (hk : e.k = k) (tb dc vr ab ae : Nat) (h1 : e.tb = tb) (h2 : e.dc = dc) (h3 : e.vr = vr) (h4 : e.ab = ab) (h5 : e.ae = ae) (v : Vt) (h : List Nat) (g : Bool) (h6 : e.v = v) (h7 : e.h = h) (h8 : e.g = g) : (⟨k, e.t, tb, dc, vr, v, h, g, ab, ae⟩ : En) = e := by
 cases e; simp_all
theorem reads_en {e : En} (hw : EnW e) (h : mayE e = 0) : Reads enR (itmB true e) e := by
 have hn := (may_form h).num
 have h1 := hn.k; have h2 := hn.tb; have h3 := hn.dc; have h4 := hn.vr; have h5 := hn.ab; have h6 := hn.ae; have h7 := hn.t
 have ek : e.k = ((e.k.toNat : Nat) : Int) := by omega
 have hrest : Reads (rvR e.k.toNat e.tb.toNat e.dc.toNat e.vr.toNat e.t e.ab.toNat e.ae.toNat) ((if e.k = 2 then e.h else []) ++ tail e.k (datL e) true) e := by
  unfold rvR
  by_cases hk : e.k = 2
  . rw [if_pos hk, if_pos (by omega)]
    have ht := reads_take e.h
    rw [hw.h.1] at ht
    refine reads_bind ht ?_
    have := reads_to (reads_dt hw h hk) (fun d => (⟨((e.k.toNat : Nat) : Int), e.t, ((e.tb.toNat : Nat) : Int), ((e.dc.toNat : Nat) : Int), ((e.vr.toNat : Nat) : Int), d.1, e.h, d.2, ((e.ab.toNat : Nat) : Int), ((e.ae.toNat : Nat) : Int)⟩ : En))
    rw [en_eta e _ ek _ _ _ _ _ (by omega) (by omega) (by omega) (by omega) (by omega) _ _ _ rfl rfl rfl] at this
    exact this
  . obtain ⟨s, _, _, hr⟩ := form_iff.1 (may_form h)
    unfold restB at hr
    rw [if_neg hk] at hr
    simp only [Bool.and_eq_true, decide_eq_true_iff, Bool.not_eq_true'] at hr
    have et : tail e.k (datL e) true = [] := by unfold tail; rw [if_neg hk]
    rw [if_neg hk, et, if_neg (by omega), List.append_nil]
    rw [en_eta e _ ek _ _ _ _ _ (by omega) (by omega) (by omega) (by omega) (by omega) _ _ _ ((nvB_iff _).1 hr.1.2) hr.2 hr.1.1]
    exact reads_ret e
 unfold itmB entB
 simp only [List.append_assoc]
 refine reads_bind (reads_by _) (reads_bind (reads_nI h2.1 (by omega)) (reads_bind (reads_nI h3.1 (by omega)) (reads_bind (reads_nI h4.1 (by omega)) ?_)))
 rw [<- List.append_assoc (uv e.t.size)]
 exact reads_bind (reads_t (by omega)) (reads_bind (reads_nI h5.1 (by omega)) (reads_bind (reads_nI h6.1 (by omega)) hrest))
theorem snoc_cases {α : Type} (l : List α) : l = [] ∨ ∃ m x, l = m ++ [x] := by
 rcases List.eq_nil_or_concat l with h | ⟨m, x, h⟩
 . exact .inl h
 . exact .inr ⟨m, x, by simpa using h⟩
theorem reads_es : ∀ (n : Nat) (l : List En), l.length = n -> (∀ e ∈ l, EnW e) -> (∀ e ∈ l, mayE e = 0) -> Reads (esR n) (l.flatMap (itmB true)) l
 | 0, l, hn, _, _ => by rw [List.eq_nil_of_length_eq_zero hn]; exact reads_ret _
 | n + 1, l, hn, h1, h2 => by
   rcases snoc_cases l with rfl | ⟨m, x, rfl⟩
   . simp at hn
   . have ih := reads_es n m (by simpa using hn) (fun e he => h1 e (by simp [he])) (fun e he => h2 e (by simp [he]))
     rw [List.flatMap_append]
     refine reads_bind ih ?_
     have := reads_to (reads_en (h1 x (by simp)) (h2 x (by simp))) (fun e => m ++ [e])
     simpa using this
theorem reads_bk {b : Bk} (hw : BkW b) (h : chkB b = 0) : Reads bkR (blkB b true) b := by
 obtain ⟨⟨h1, h2, h3, h4⟩, hf, hl⟩ := chk_zero h
 unfold blkB hedB
 simp only [List.append_assoc]
 have ht := reads_take b.pv
 rw [hw.pv.1] at ht
 refine reads_bind (reads_nI h1.1 (by omega)) (reads_bind (reads_nI h2.1 (by omega)) (reads_bind (reads_nI h3.1 (by omega)) (reads_bind ht (reads_bind (reads_n (by omega)) ?_))))
 have := reads_to (reads_es _ b.es rfl hw.es (fst_all hf)) (fun es => (⟨((b.ix.toNat : Nat) : Int), ((b.tm.toNat : Nat) : Int), ((b.tx.toNat : Nat) : Int), b.pv, es⟩ : Bk))
 have e : (⟨((b.ix.toNat : Nat) : Int), ((b.tm.toNat : Nat) : Int), ((b.tx.toNat : Nat) : Int), b.pv, b.es⟩ : Bk) = b := by
  cases b; simp_all <;> omega
 rw [e] at this
 exact this
theorem dec_bk {b : Bk} (hw : BkW b) (h : chkB b = 0) : decB (blkB b true) = 0 /\ decK (blkB b true) = b := by
 have h1 := reads_bk hw h []
 rw [List.append_nil] at h1
 have e : decB (blkB b true) = 0 := by
  unfold decB
  rw [h1]
  simp only
  rw [if_neg (by simp), if_neg (by simpa using h), if_neg (by have := (chk_zero h).2.2; omega)]
 refine ⟨e, ?_⟩
 unfold decK
 rw [h1]
 simp only
 rw [if_pos e]
end Go.Proofs.YtmbglggodifboaaGreat.Sh
namespace Go.Proofs.YtmbglggodifboaaGreat
open Go.RowKit Math
structure Rq (w0 : World) (r : Nat) (w : World) (l : List Nat) (e : Int) : Prop where
 ex : ∃ a c, Blk w r 117 [.slice a l.length c, .int .i64 e] /\ Byt w0 a l /\ (a = none -> c = 0) /\ l.length <= c /\ c <= 9223372036854775807
 bl : Below w0.heap.size w0 w
 lt : w0.heap.size <= r
 oct : Oct l
 len : l.length <= 1000000
def Sq {α : Type} (f : Rdr α) (l : List Nat) (err : Int) (l' : List Nat) (err' : Int) (x : α) : Prop :=
 (err ≠ 0 /\ l' = l /\ err' = err) ∨ (err = 0 /\ ((f l = .ok (x, l') /\ err' = 0) ∨ ∃ e : Nat, f l = .error e /\ err' = (e : Int) /\ e ≠ 0))
def QdC {α : Type} (F : Nat) (f : Rdr α) (val : α -> Value) (P Z : α -> Prop) : Prop := ∀ (w0 W : World) (r : Nat) (l : List Nat) (err : Int), Rq w0 r W l err ->
 Calls Tryz.prog F #[.pointer (some ⟨r, 0, none⟩)] W fun e w' => ∃ x l' err', e = .returned (val x) /\ P x /\ (err' ≠ 0 -> Z x) /\ Hid (Rq w0 r w' l' err' /\ W.grownBy w' (some r) /\ Sq f l err l' err' x)
theorem Rq.same {w0 : World} {r : Nat} {w w' : World} {l : List Nat} {e : Int} (h : Rq w0 r w l e) {a : Option Addr} {c : Nat} {l' : List Nat} {e' : Int} (hb : Blk w' r 117 [.slice a l'.length c, .int .i64 e']) (hg : w.grownBy w' (some r)) (h1 : Byt w0 a l') (h2 : a = none -> c = 0) (h3 : l'.length <= c) (h4 : c <= 9223372036854775807) (h5 : Oct l') (h6 : l'.length <= 1000000) : Rq w0 r w' l' e' :=
 ⟨⟨a, c, hb, h1, h2, h3, h4⟩, h.bl.grown hg h.bl.size (fun x e => by injection e with e; have := h.lt; omega), h.lt, h5, h6⟩
theorem sz5 (w : World) : (Go.sizeOf 5).run Tryz.prog w = .ok 1 w := by
 have : (Tryz.prog.info? 5).map (·.size) = some 1 := by kernel_rfl
 cases hq : Tryz.prog.info? 5 with
 | none => simp [hq] at this
 | some i => simp [hq] at this; simp [Go.sizeOf, typeInfo, hq, this]
theorem sl_byt {ops : Array Oper} {rest : List Oper} {o : Oper} {a : Act} {w : World} {Q : Exit -> Act -> World -> Prop} (hg : o.guard = none) (x y : Operand) (ho : o.op = .slice 29 x (some y) none none)
 (A : Option Addr) (cap n : Nat) (l : List Nat) (w0 : World) (z : Int) (hz : z = (n : Int)) (hx : a.eval x = .slice A l.length cap) (hy : a.eval y = .int .i64 z) (hn : n <= l.length) (hc : l.length <= cap) (hB : Byt w0 A l) (hnil : A = none -> cap = 0)
 (h : ∀ A', Byt w0 A' (l.drop n) -> (A' = none -> cap - n = 0) -> wpList Tryz.prog ops Q rest (a.put o.dst (.slice A' (l.length - n) (cap - n))) w) : wpList Tryz.prog ops Q (o :: rest) a w := by
 subst hz
 refine wpList_plain hg fun K hK => ?_
 unfold Oper.wp execOp
 simp only [ho, hx, hy, Option.map_some, Option.map_none, run_fromW 29 5 Tryz.underlying29 1 sz5 A l.length cap n hn w, Sem.run_bind, Result.andThen_ok, Sem.run_pure]
 refine hK _ _ (h _ ?_ ?_)
 . by_cases hcn : cap = n
   . left
     exact List.drop_of_length_le (by omega)
   . rw [if_neg hcn]
     rcases hB with rfl | ⟨b, off, rfl, hcl⟩
     . left
       simp
     . right
       exact ⟨b, off + n, by simp [Addr.add_lit], byt_drop hcl n⟩
 . intro h0
   by_cases hcn : cap = n
   . omega
   . rw [if_neg hcn] at h0
     cases A with
     | none => have := hnil rfl; omega
     | some ad => simp at h0
theorem s29 : (Tryz.prog.info? 29).map (·.size) = some 1 := by kernel_rfl
theorem qone_any : QdC 84 byR (fun x => .int .u8 (x : Int)) (· < 256) (· = 0) := by
 intro w0 W r l err hR
 obtain ⟨a, c, hb, hB, hnil, hlc, hcm⟩ := hR.ex
 have HR : Hid (Rq w0 r W l err) := hR
 have HBk : Hid (Blk W r 117 [.slice a l.length c, .int .i64 err]) := hb
 have HB : Hid (Byt w0 a l) := hB
 have c0 : W.cell? ⟨r, 0, none⟩ = some (.slice a l.length c) := hb.cell 0
 have c1 : W.cell? ⟨r, 1, none⟩ = some (.int .i64 err) := hb.cell 1
 have HNl : Hid (a = none -> c = 0) := hnil
 clear hR hb hB hnil
 by_cases he : err = 0
 case neg =>
  have h1 : (err == 0) = false := by simpa using he
  have h2 : (err != 0) = true := by simpa using he
  go_enter Tryz.func84, Tryz.ntmps84
  go_wp2
  go_ret
  exact ⟨0, l, err, rfl, by omega, fun _ => rfl, HR.out, World.grownBy.refl _ _, .inl ⟨he, rfl, rfl⟩⟩
 subst he
 cases l with
 | nil =>
   have hlz : (([] : List Nat).length : Int) = 0 := rfl
   go_enter Tryz.func84, Tryz.ntmps84
   go_wp2_with (refine st_one rfl 3 (.tmp 19) (.const (.int .i64 2)) rfl r 1 117 _ (.int .i64 2) rfl rfl rfl rfl (by simp) HBk.out s3 ?_)
   intro w1 b1 g1
   have c1' : w1.cell? ⟨r, 1, none⟩ = some (.int .i64 2) := b1.cell 1
   have HF : Hid (Rq w0 r w1 [] 2 /\ W.grownBy w1 (some r) /\ Sq byR [] 0 [] 2 0) := ⟨HR.out.same (a := a) (c := c) b1 g1 HB.out HNl.out (by simp) hcm (by intro x hx; simp at hx) (by simp), g1, .inr ⟨rfl, .inr ⟨2, rfl, rfl, by decide⟩⟩⟩
   clear b1 g1
   go_wp2
   go_ret
   exact ⟨0, [], 2, rfl, by omega, fun _ => rfl, HF.out⟩
 | cons x t =>
   obtain ⟨bb, ob, rfl, hcl⟩ : ∃ b o, a = some ⟨b, o, none⟩ /\ Cells w0 b o (x :: t) := by
    rcases HB.out with h | h
    . cases h
    . exact h
   have hx : x < 256 := HR.out.oct x (by simp)
   have hcx : W.cell? ⟨bb, ob, none⟩ = some (.int .u8 (x : Int)) := by
    have := hcl 0 (by simp)
    rw [Nat.add_zero] at this
    exact (HR.out.bl.cell (p := ⟨bb, ob, none⟩) (cell_lt this)).trans this
   have hl0 : (((x :: t).length : Int) == 0) = false := beq_eq_false_iff_ne.2 (by simp only [List.length_cons]; omega)
   have hlp : 0 < (x :: t).length := by simp
   clear hcl
   go_enter Tryz.func84, Tryz.ntmps84
   go_wp2_with (refine sl_byt rfl (.tmp 35) (.const (.int .i64 1)) rfl (some ⟨bb, ob, none⟩) c 1 (x :: t) w0 1 rfl rfl rfl (by simp) hlc HB.out (by intro h; cases h) ?_)
   intro A' hA hAn
   have HA : Hid (Byt w0 A' t /\ (A' = none -> c - 1 = 0)) := ⟨hA, hAn⟩
   clear hA hAn
   go_wp2_with (refine st_one rfl 29 (.tmp 38) (.tmp 36) rfl r 0 117 _ (.slice A' ((x :: t).length - 1) (c - 1)) rfl rfl rfl rfl (by simp) HBk.out s29 ?_)
   intro w1 b1 g1
   have HF : Hid (Rq w0 r w1 t 0 /\ W.grownBy w1 (some r) /\ Sq byR (x :: t) 0 t 0 x) := ⟨HR.out.same (a := A') (c := c - 1) b1 g1 HA.out.1 HA.out.2 (by simp only [List.length_cons] at hlc; omega) (by omega) (fun y hy => HR.out.oct y (by simp [hy])) (by have := HR.out.len; simp only [List.length_cons] at this; omega), g1, .inr ⟨rfl, .inl ⟨rfl, rfl⟩⟩⟩
   clear b1 g1
   go_wp2
   go_ret
   exact ⟨x, t, 0, rfl, hx, fun h => absurd rfl h, HF.out⟩
theorem sq_bind {α β : Type} {f : Rdr α} {g : α -> Rdr β} {l l1 l2 : List Nat} {err e1 e2 : Int} {x : α} {y : β} (h : Sq f l err l1 e1 x) (h2 : Sq (g x) l1 e1 l2 e2 y) : Sq (f.bind g) l err l2 e2 y := by
 rcases h with ⟨a, rfl, rfl⟩ | ⟨a, ⟨b, rfl⟩ | ⟨e, b, rfl, c⟩⟩
 . rcases h2 with ⟨_, rfl, rfl⟩ | ⟨h, _⟩
   . exact .inl ⟨a, rfl, rfl⟩
   . exact absurd h a
 . right
   refine ⟨a, ?_⟩
   rw [bind_ok b]
   rcases h2 with ⟨h, _⟩ | ⟨_, h⟩
   . exact absurd rfl h
   . exact h
 . right
   refine ⟨a, .inr ⟨e, bind_err b, ?_, c⟩⟩
   rcases h2 with ⟨_, _, h⟩ | ⟨h, _⟩
   . exact h
   . exact absurd (Int.ofNat_eq_zero.1 h) c
theorem sq_ret {α : Type} (x : α) (l : List Nat) (err : Int) : Sq (Rdr.ret x) l err l err x := by
 by_cases h : err = 0
 . exact .inr ⟨h, .inl ⟨rfl, h⟩⟩
 . exact .inl ⟨h, rfl, rfl⟩
theorem sq_err0 {α : Type} {f : Rdr α} {l l' : List Nat} {err err' : Int} {x : α} (h : Sq f l err l' err' x) (he : err' = 0) : err = 0 := by
 rcases h with ⟨a, _, c⟩ | ⟨a, _⟩
 . exact absurd (c ▸ he) a
 . exact a
theorem qnum_any : QdC 86 uvR (fun u => .int .u64 (u : Int)) (· < 18446744073709551616) (· = 0) := by
 intro w0 W r l err hR
 obtain ⟨a, c, hb, hB, hnil, hlc, hcm⟩ := hR.ex
 have HR : Hid (Rq w0 r W l err) := hR
 have HBk : Hid (Blk W r 117 [.slice a l.length c, .int .i64 err]) := hb
 have HB : Hid (Byt w0 a l) := hB
 have c0 : W.cell? ⟨r, 0, none⟩ = some (.slice a l.length c) := hb.cell 0
 have c1 : W.cell? ⟨r, 1, none⟩ = some (.int .i64 err) := hb.cell 1
 have HNl : Hid (a = none -> c = 0) := hnil
 clear hR hb hB hnil
 by_cases he : err = 0
 case neg =>
  have h2 : (err != 0) = true := by simpa using he
  go_enter Tryz.func86, Tryz.ntmps86
  go_wp2
  go_ret
  exact ⟨0, l, err, rfl, by omega, fun _ => rfl, HR.out, World.grownBy.refl _ _, .inl ⟨he, rfl, rfl⟩⟩
 subst he
 obtain ⟨u, n, e, ht⟩ : ∃ u n e, ruv l 0 0 = (u, n, e) := ⟨_, _, _, rfl⟩
 have KU := ruvr_any a c l HR.out.len W (HB.out.below HR.out.bl) HR.out.oct
 rw [ht] at KU
 replace KU : Calls Tryz.prog 46 #[.slice a l.length c] W fun e' w' => e' = .returned (.tuple #[.int .u64 (u : Int), .int .i64 (n : Int), .int .i64 (e : Int)]) /\ w' = W := KU
 by_cases h : e = 0
 . subst h
   obtain ⟨hu, hnl, _, _⟩ := ruv_good HR.out.oct (by rw [ht])
   rw [ht] at hu hnl
   have HS : Hid (Sq uvR l 0 (l.drop n) 0 u) := .inr ⟨rfl, .inl ⟨by unfold uvR; rw [ht]; rfl, rfl⟩⟩
   clear ht
   go_enter Tryz.func86, Tryz.ntmps86
   go_wp2_with fail
   refine KU.mono ?_
   clear KU
   rintro e' w' ⟨rfl, rfl⟩
   go_wp2_with (refine sl_byt rfl (.tmp 30) (.tmp 31) rfl a c n l w0 _ rfl rfl rfl hnl hlc HB.out HNl.out ?_)
   intro A' hA hAn
   have HA : Hid (Byt w0 A' (l.drop n) /\ (A' = none -> c - n = 0)) := ⟨hA, hAn⟩
   clear hA hAn
   go_wp2_with (refine st_one rfl 29 (.tmp 34) (.tmp 32) rfl r 0 117 _ (.slice A' (l.length - n) (c - n)) rfl rfl rfl rfl (by simp) HBk.out s29 ?_)
   intro w1 b1 g1
   have HF : Hid (Rq w0 r w1 (l.drop n) 0 /\ w'.grownBy w1 (some r) /\ Sq uvR l 0 (l.drop n) 0 u) := by
    refine ⟨HR.out.same (a := A') (c := c - n) ?_ g1 HA.out.1 HA.out.2 (by rw [List.length_drop]; omega) (by omega) (oct_drop HR.out.oct n) (by rw [List.length_drop]; have := HR.out.len; omega), g1, HS.out⟩
    rw [List.length_drop]
    exact b1
   clear b1 g1
   go_wp2
   go_ret
   exact ⟨u, l.drop n, 0, rfl, hu, fun h => absurd rfl h, HF.out⟩
 . obtain ⟨hu, hn⟩ := ruv_bad l 0 0 (by rw [ht]; exact h)
   rw [ht] at hu hn
   simp only at hu hn
   subst hu hn
   have HS : Hid (Sq uvR l 0 l (e : Int) 0) := .inr ⟨rfl, .inr ⟨e, by unfold uvR; rw [ht]; simp [h], rfl, h⟩⟩
   have heb : ((e : Int) != 0) = true := by simpa using h
   clear ht
   go_enter Tryz.func86, Tryz.ntmps86
   go_wp2_with fail
   refine KU.mono ?_
   clear KU
   rintro e' w' ⟨rfl, rfl⟩
   go_wp2_with (refine st_one rfl 3 (.tmp 25) (.tmp 23) rfl r 1 117 _ (.int .i64 (e : Int)) rfl rfl rfl rfl (by simp) HBk.out s3 ?_)
   intro w1 b1 g1
   have HF : Hid (Rq w0 r w1 l (e : Int) /\ w'.grownBy w1 (some r) /\ Sq uvR l 0 l (e : Int) 0) := ⟨HR.out.same (a := a) (c := c) b1 g1 HB.out HNl.out hlc hcm HR.out.oct HR.out.len, g1, HS.out⟩
   clear b1 g1
   go_wp2
   go_ret
   exact ⟨0, l, (e : Int), rfl, by omega, fun _ => rfl, HF.out⟩
theorem qcnt_any : QdC 88 lenR (fun x => .int .i64 (x : Int)) (· <= 65536) (· = 0) := by
 intro w0 W r l err hR
 have K := qnum_any w0 W r l err hR
 clear hR
 go_enter Tryz.func88, Tryz.ntmps88
 go_wp2_with fail
 refine K.mono ?_
 clear K
 rintro e w1 ⟨u, l1, e1, rfl, hu, hz, H⟩
 obtain ⟨a, c, hb, hB, hnil, hlc, hcm⟩ := H.out.1.ex
 have HBk : Hid (Blk w1 r 117 [.slice a l1.length c, .int .i64 e1]) := hb
 have HB : Hid (Byt w0 a l1 /\ (a = none -> c = 0)) := ⟨hB, hnil⟩
 have c1 : w1.cell? ⟨r, 1, none⟩ = some (.int .i64 e1) := hb.cell 1
 clear hb hB hnil
 by_cases he : e1 = 0
 case neg =>
  have h1 : (e1 == 0) = false := by simpa using he
  have h2 : (e1 != 0) = true := by simpa using he
  have HF : Hid (Rq w0 r w1 l1 e1 /\ W.grownBy w1 (some r) /\ Sq lenR l err l1 e1 0) := ⟨H.out.1, H.out.2.1, sq_bind H.out.2.2 (.inl ⟨he, rfl, rfl⟩)⟩
  clear H
  go_wp2
  go_ret
  exact ⟨0, l1, e1, rfl, by omega, fun _ => rfl, HF.out⟩
 subst he
 by_cases hbig : 65536 < u
 . have hb2 : decide ((65536 : Int) < (u : Int)) = true := decide_eq_true (by omega)
   go_wp2_with (refine st_one rfl 3 (.tmp 17) (.const (.int .i64 3)) rfl r 1 117 _ (.int .i64 3) rfl rfl rfl rfl (by simp) HBk.out s3 ?_)
   intro w2 b2 g2
   have c1' : w2.cell? ⟨r, 1, none⟩ = some (.int .i64 3) := b2.cell 1
   have HF : Hid (Rq w0 r w2 l1 3 /\ W.grownBy w2 (some r) /\ Sq lenR l err l1 3 0) := by
    refine ⟨H.out.1.same (a := a) (c := c) b2 g2 HB.out.1 HB.out.2 hlc hcm H.out.1.oct H.out.1.len, H.out.2.1.trans g2, sq_bind H.out.2.2 ?_⟩
    rw [if_pos hbig]
    exact .inr ⟨rfl, .inr ⟨3, rfl, rfl, by decide⟩⟩
   clear b2 g2 H c1
   go_wp2
   go_ret
   exact ⟨0, l1, 3, rfl, by omega, fun _ => rfl, HF.out⟩
 . have hb2 : decide ((65536 : Int) < (u : Int)) = false := decide_eq_false (by omega)
   have HF : Hid (Rq w0 r w1 l1 0 /\ W.grownBy w1 (some r) /\ Sq lenR l err l1 0 u) := by
    refine ⟨H.out.1, H.out.2.1, sq_bind H.out.2.2 ?_⟩
    rw [if_neg hbig]
    exact sq_ret _ _ _
   clear H
   go_wp2
   go_ret
   exact ⟨u, l1, 0, rfl, by omega, fun h => absurd rfl h, HF.out⟩
end Go.Proofs.YtmbglggodifboaaGreat
