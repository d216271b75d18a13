/-
  Two digests, reckoned.
-/
import Derived.Test.YtajikbnnlhokbaaMath
import Derived.KernelRfl
namespace Go.Proofs.Ytajikbnnlhokbaa.Math
/-- A number is reckoned ahead of what is made of it. -/
def force {α : Type} (n : Nat) (f : Nat → α) : α := match n with
  | 0 => f 0
  | k + 1 => f (k + 1)
theorem force_eq {α : Type} (n : Nat) (f : Nat → α) : force n f = f n := by cases n <;> rfl
def forceL {α : Type} : List Nat → (List Nat → α) → α
  | [], f => f []
  | x :: r, f => force x fun y => forceL r fun q => f (y :: q)
theorem forceL_eq {α : Type} : ∀ (l : List Nat) (f : List Nat → α), forceL l f = f l
  | [], _ => rfl
  | x :: r, f => by rw [forceL, force_eq, forceL_eq r]
def stepE (s : St) (k w : Nat) : St := match s with
  | ⟨a, b, c, d, e, f, g, h⟩ => force ((h + bs1 e + cho e f g + k + w) % 4294967296) fun t => force ((t + (bs0 a + maj a b c) % 4294967296) % 4294967296) fun x => force ((d + t) % 4294967296) fun y => ⟨x, a, b, c, y, e, f, g⟩
theorem stepE_eq (s : St) (k w : Nat) : stepE s k w = step s k w := by
  unfold stepE; simp only [force_eq]; rfl
def runE : List Nat → List Nat → St → St
  | k :: ks, w :: ws, s => runE ks ws (stepE s k w)
  | _, _, s => s
theorem runE_eq (W ks : List Nat) (s0 : St) : ∀ (n i : Nat) (ks' ws' : List Nat), ks'.length = n → ws'.length = n → (∀ j, ks'.getD j 0 = K.getD (i + j) 0) → (∀ j, ws'.getD j 0 = W.getD (i + j) 0) → runE ks' ws' (run s0 W i) = run s0 W (i + n)
  | 0, i, ks', ws', h1, h2, _, _ => by
    obtain rfl := List.eq_nil_of_length_eq_zero h1
    rfl
  | n + 1, i, k :: ks', w :: ws', h1, h2, h3, h4 => by
    have e1 : k = K.getD i 0 := by simpa using h3 0
    have e2 : w = W.getD i 0 := by simpa using h4 0
    rw [runE, stepE_eq, e1, e2]
    have := runE_eq W ks s0 n (i + 1) ks' ws' (by simpa using h1) (by simpa using h2) (fun j => by simpa [Nat.add_comm, Nat.add_left_comm] using h3 (j + 1)) (fun j => by simpa [Nat.add_comm, Nat.add_left_comm] using h4 (j + 1))
    rw [show i + (n + 1) = i + 1 + n by omega, ← this]
    rfl
def schedE : Nat → List Nat → List Nat
  | 0, l => l
  | n + 1, l => forceL (l ++ [next l]) (schedE n)
theorem schedE_eq (b : Nat → Nat) : ∀ n k, schedE n (sched b k) = sched b (k + n)
  | 0, k => rfl
  | n + 1, k => by
    rw [schedE, forceL_eq, show sched b k ++ [next (sched b k)] = sched b (k + 1) from rfl, schedE_eq b n (k + 1), show k + 1 + n = k + (n + 1) by omega]
/-- One block, of sixteen words. -/
def oneE (ws : List Nat) : List Nat := (plus init (runE K (schedE 48 ws) init)).l
theorem oneE_eq (b : Nat → Nat) (ws : List Nat) (h : sched b 0 = ws) : oneE ws = (comp init b).l := by
  subst h
  unfold oneE comp
  rw [schedE_eq]
  have := runE_eq (sched b 48) [] init 64 0 K (sched b 48) K_len (sched_len b 48) (fun j => by rw [Nat.zero_add]) (fun j => by rw [Nat.zero_add])
  rw [Nat.zero_add] at this
  rw [Nat.zero_add, ← this]
  rfl
theorem D_one (l : List Nat) (hl : l.length < 56) (ws st : List Nat) (h : sched (part (l ++ pad l.length) 0) 0 = ws) (hs : oneE ws = st) :
    D l = (List.range 32).map fun i => st.getD (i / 4) 0 / 2 ^ (24 - 8 * (i % 4)) % 256 := by
  rw [oneE_eq _ ws h] at hs
  subst hs
  unfold D
  have e : (l ++ pad l.length).length / 64 = 1 := by simp [pad, be8]; omega
  rw [e]
  rfl
set_option maxRecDepth 100000 in
theorem D_abc : D [97, 98, 99] = [186, 120, 22, 191, 143, 1, 207, 234, 65, 65, 64, 222, 93, 174, 34, 35, 176, 3, 97, 163, 150, 23, 122, 156, 180, 16, 255, 97, 242, 0, 21, 173] :=
  (D_one [97, 98, 99] (by decide) [1633837952, 0, 0, 0, 0, 0, 0, 0, 0, 0, 0, 0, 0, 0, 0, 24] [3128432319, 2399260650, 1094795486, 1571693091, 2953011619, 2518121116, 3021012833, 4060091821] (by kernel_rfl) (by kernel_rfl)).trans (by kernel_rfl)
set_option maxRecDepth 100000 in
theorem D_zero : D [0] = [110, 52, 11, 156, 255, 179, 122, 152, 156, 165, 68, 230, 187, 120, 10, 44, 120, 144, 29, 63, 179, 55, 56, 118, 133, 17, 163, 6, 23, 175, 160, 29] :=
  (D_one [0] (by decide) [8388608, 0, 0, 0, 0, 0, 0, 0, 0, 0, 0, 0, 0, 0, 0, 8] [1848904604, 4289952408, 2628076774, 3145206316, 2022710591, 3006740598, 2232525574, 397385757] (by kernel_rfl) (by kernel_rfl)).trans (by kernel_rfl)
#print axioms D_abc
#print axioms D_zero
end Go.Proofs.Ytajikbnnlhokbaa.Math
