/-
  Plain numbers: powers of ten, good numbers, what a coefficient becomes at a greater scale.
-/
import Derived.KernelRfl
namespace Go.Proofs.YtgdiejjjlchkpaaDoor

def p10 : Nat → Int
  | 0 => 1
  | k + 1 => p10 k * 10
theorem p10_pos (k : Nat) : 1 ≤ p10 k := by
  induction k with
  | zero => exact Int.le_refl _
  | succ k ih => show 1 ≤ p10 k * 10; omega
theorem p10_step (k j : Nat) (h : k ≤ j) : p10 k ≤ p10 j := by
  induction j with
  | zero => obtain rfl : k = 0 := by omega
            exact Int.le_refl _
  | succ j ih =>
    by_cases e : k = j + 1
    · rw [e]; exact Int.le_refl _
    · have := ih (by omega); have := p10_pos j; show p10 k ≤ p10 j * 10; omega
theorem p10_17 (k : Nat) (h : k ≤ 17) : p10 k ≤ 100000000000000000 := p10_step k 17 h
theorem p10_5 (k : Nat) (h : k ≤ 5) : p10 k ≤ 100000 := p10_step k 5 h

/-- Is it a digit? -/
def isDgC (c : UInt8) : Bool := decide (48 ≤ c.toNat) && decide (c.toNat ≤ 57)
/-- What digits say. -/
def valL (l : List UInt8) : Int := l.foldl (fun a c => 10 * a + ((c.toNat : Int) - 48)) 0
theorem valL_snoc (l : List UInt8) (c : UInt8) : valL (l ++ [c]) = 10 * valL l + ((c.toNat : Int) - 48) := by simp [valL]

/-- How two numbers stand. -/
def cmpZ (x y : Int) : Int := if x < y then -1 else if y < x then 1 else 0

theorem cmpZ_lt {x y : Int} (h : x < y) : -1 = cmpZ x y := by rw [cmpZ, if_pos h]
theorem cmpZ_gt {x y : Int} (h : ¬ x < y) (h' : y < x) : 1 = cmpZ x y := by rw [cmpZ, if_neg h, if_pos h']
theorem cmpZ_eq {x y : Int} (h : ¬ x < y) (h' : ¬ y < x) : 0 = cmpZ x y := by rw [cmpZ, if_neg h, if_neg h']

/-- A number that is good. -/
def goodB (g : Bool) (c s : Int) : Bool := decide (0 ≤ c) && (decide (c < 1000000000000000000) && (decide (0 ≤ s) && (decide (s ≤ 5) && (!(c == 0) || !g))))
theorem goodB_parts {g : Bool} {c s : Int} (h : goodB g c s = true) : 0 ≤ c ∧ c < 1000000000000000000 ∧ 0 ≤ s ∧ s ≤ 5 ∧ (c = 0 → g = false) := by
  simp only [goodB, Bool.and_eq_true, decide_eq_true_eq, Bool.or_eq_true, Bool.not_eq_true', beq_eq_false_iff_ne, ne_eq] at h
  obtain ⟨h1, h2, h3, h4, h5⟩ := h
  refine ⟨h1, h2, h3, h4, fun h => ?_⟩
  rcases h5 with h5 | h5
  · exact absurd h h5
  · exact h5

/-- The coefficient at the scale m, with its sign. -/
def atScale (g : Bool) (c s m : Int) : Int :=
  (if g then -1 else 1) * (if c < 2000000000000000000 / p10 (m - s).toNat then c * p10 (m - s).toNat else 2000000000000000000)

theorem mul_bd {c p : Int} (h0 : 0 ≤ c) (hp : 1 ≤ p) (h : c < 2000000000000000000 / p) : 0 ≤ c * p ∧ c * p ≤ 2000000000000000000 := by
  have h2 : c * p ≤ (2000000000000000000 / p) * p := Int.mul_le_mul_of_nonneg_right (by omega) (by omega)
  have h3 := Int.ediv_mul_le 2000000000000000000 (b := p) (by omega)
  exact ⟨Int.mul_nonneg h0 (by omega), by omega⟩

theorem atScale_bd (g : Bool) (c s m : Int) (h0 : 0 ≤ c) : -2000000000000000000 ≤ atScale g c s m ∧ atScale g c s m ≤ 2000000000000000000 := by
  unfold atScale
  have hp := p10_pos (m - s).toNat
  by_cases h : c < 2000000000000000000 / p10 (m - s).toNat
  · rw [if_pos h]
    have := mul_bd h0 hp h
    cases g <;> simp <;> omega
  · rw [if_neg h]; cases g <;> simp

/-- The other sign. -/
def negB (g : Bool) (c : Int) : Bool := !(c == 0) && !g
/-- The coefficient and the scale of the number of least scale. -/
def lst : Nat → Int → Int × Nat
  | 0, c => (c, 0)
  | s + 1, c => if c % 10 = 0 then lst s (c / 10) else (c, s + 1)
theorem lst_stop {k : Nat} {d : Int} (hk : 0 < k) (hd : ¬ d % 10 = 0) : lst k d = (d, k) := by
  obtain ⟨k, rfl⟩ : ∃ j, k = j + 1 := ⟨k - 1, by omega⟩
  rw [lst, if_neg hd]
theorem lst_go {k : Nat} {d : Int} (hd : d % 10 = 0) : lst (k + 1) d = lst k (d / 10) := by rw [lst, if_pos hd]

/-- What Add tells: sign, coefficient, scale, error. -/
def addN (g : Bool) (c s : Int) (g' : Bool) (c' s' : Int) : Bool × Int × Int × Int :=
  if goodB g c s && goodB g' c' s' then
    if -1000000000000000000 < atScale g c s (max s s') + atScale g' c' s' (max s s') ∧ atScale g c s (max s s') + atScale g' c' s' (max s s') < 1000000000000000000 then
      (decide (atScale g c s (max s s') + atScale g' c' s' (max s s') < 0), max (atScale g c s (max s s') + atScale g' c' s' (max s s')) (-(atScale g c s (max s s') + atScale g' c' s' (max s s'))), max s s', 0)
    else (false, 0, 0, 11)
  else (false, 0, 0, 1)
end Go.Proofs.YtgdiejjjlchkpaaDoor
