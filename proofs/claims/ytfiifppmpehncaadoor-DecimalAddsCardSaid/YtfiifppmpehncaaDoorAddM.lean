/-
  Sums, digit by digit: plain numbers.
-/
import Derived.Test.YtfiifppmpehncaaDoorRefE
namespace Go.Proofs.YtfiifppmpehncaaDoor

/-- A sum's step: the digits of A + B, and what is carried. -/
theorem sum_step {A B m cy x y : Nat} (h : sh (A + B) m = sh A m + sh B m + cy) (hx : x = sh A m % 10) (hy : y = sh B m % 10) (_hc : cy ≤ 1) :
    sh (A + B) m % 10 = (x + y + cy) % 10 ∧ sh (A + B) (m + 1) = sh A (m + 1) + sh B (m + 1) + (x + y + cy) / 10 := by
  rw [sh_succ, sh_succ, sh_succ]; omega
/-- A difference's step. -/
theorem diff_step {Z Y m bw x y : Nat} (h : sh (Z + Y) m = sh Z m + sh Y m + bw) (hx : x = sh (Z + Y) m % 10) (hy : y = sh Y m % 10) (_hc : bw ≤ 1) :
    (y + bw ≤ x → sh Z m % 10 = x - y - bw ∧ sh (Z + Y) (m + 1) = sh Z (m + 1) + sh Y (m + 1)) ∧
    (x < y + bw → sh Z m % 10 = x + 10 - y - bw ∧ sh (Z + Y) (m + 1) = sh Z (m + 1) + sh Y (m + 1) + 1) := by
  rw [sh_succ, sh_succ, sh_succ]; omega
theorem sh_big {W k : Nat} (h : W < 10 ^ k) : sh W k = 0 := Nat.div_eq_of_lt h
/-- Where nothing stands above, there are few digits. -/
theorem sh_few (W a : Nat) : ∀ r, r ≤ a → sh W a = 0 → sh W (a - r) < 10 ^ r
  | 0, _, h => by rw [Nat.sub_zero, h]; decide
  | r + 1, hr, h => by
    have ih := sh_few W a r (by omega) h
    have e : sh W (a - r) = sh W (a - (r + 1)) / 10 := by rw [← sh_succ]; congr 1; omega
    rw [e] at ih
    rw [Nat.pow_succ]
    omega
theorem sh_many (W a r : Nat) (h : 0 < sh W (a + r)) : 10 ^ r ≤ sh W a := by
  have e : sh W (a + r) = sh W a / 10 ^ r := by rw [sh, sh, Nat.pow_add, Nat.div_div_eq_div_mul]
  rw [e] at h
  by_cases h2 : 10 ^ r ≤ sh W a
  · exact h2
  · rw [Nat.div_eq_of_lt (by omega)] at h
    exact absurd h (by omega)

/-- What Add tells, by the sum's size and sign. -/
theorem addN_of {g g' ng : Bool} {c c' s s' Z m : Nat} (ha : goodB g c s = true) (hb : goodB g' c' s' = true) (hm : m = max s s') (hz : sg ng (Z : Int) = sg g (aw c s : Int) + sg g' (aw c' s' : Int)) :
    addN g c s g' c' s' = if sh Z (5 - m) < 1000000000000000000 then (ng && decide (sh Z (5 - m) ≠ 0), (sh Z (5 - m) : Int), (m : Int), 0) else (false, 0, 0, 11) := by
  obtain ⟨_, _, _, a3, _⟩ := goodB_parts ha
  obtain ⟨_, _, _, b3, _⟩ := goodB_parts hb
  have hm5 : m ≤ 5 := by omega
  have emm : max (s : Int) (s' : Int) = (m : Int) := by omega
  rw [add_ex ha hb, emm]
  have w1 := ex_wo g c s m (by omega) (by omega)
  have w2 := ex_wo g' c' s' m (by omega) (by omega)
  rw [wo_nat g c s (by omega)] at w1
  rw [wo_nat g' c' s' (by omega)] at w2
  rw [w1, w2, ← Int.add_mul] at hz
  have e5 : ((5 : Int) - (m : Int)).toNat = 5 - m := by omega
  rw [e5, p10_nat] at hz
  generalize ex g c s m + ex g' c' s' m = X at hz ⊢
  have hp : 0 < 10 ^ (5 - m) := Nat.pos_of_ne_zero (by simp)
  have hZ : Z = X.natAbs * 10 ^ (5 - m) := by
    have h1 : (sg ng (Z : Int)).natAbs = Z := by cases ng <;> simp [sg]
    rw [hz, Int.natAbs_mul, Int.natAbs_natCast] at h1
    exact h1.symm
  have hq : sh Z (5 - m) = X.natAbs := by rw [sh, hZ, Nat.mul_div_cancel _ hp]
  rw [hq]
  have hsg : X ≠ 0 → (ng = true ↔ X < 0) := by
    intro h0
    have hZ0 : 0 < Z := by rw [hZ]; exact Nat.mul_pos (by omega) hp
    have hpi : (0 : Int) < ((10 ^ (5 - m) : Nat) : Int) := by omega
    cases ng
    · have h2 : (0 : Int) < X * ((10 ^ (5 - m) : Nat) : Int) := by
        rw [← hz]
        show 0 < (Z : Int)
        omega
      have h3 : 0 < X := by
        by_cases h4 : 0 < X
        · exact h4
        · have : X * ((10 ^ (5 - m) : Nat) : Int) ≤ 0 := Int.mul_nonpos_of_nonpos_of_nonneg (by omega) (by omega)
          omega
      constructor
      · intro h; cases h
      · intro h; omega
    · have h2 : X * ((10 ^ (5 - m) : Nat) : Int) < 0 := by
        rw [← hz]
        show -(Z : Int) < 0
        omega
      constructor
      · intro _
        by_cases h4 : X < 0
        · exact h4
        · have : 0 ≤ X * ((10 ^ (5 - m) : Nat) : Int) := Int.mul_nonneg (by omega) (by omega)
          omega
      · intro _; rfl
  by_cases hlt : X.natAbs < 1000000000000000000
  · rw [if_pos hlt, if_pos (by omega), ofZ]
    by_cases h0 : X = 0
    · subst h0; simp
    · have h3 := hsg h0
      have e1 : decide (X < 0) = (ng && decide (X.natAbs ≠ 0)) := by
        have h4 : decide (X.natAbs ≠ 0) = true := by rw [decide_eq_true_eq]; omega
        rw [h4, Bool.and_true]
        cases ng
        · have : ¬ X < 0 := fun h => by have := h3.2 h; cases this
          simp [this]
        · have : X < 0 := h3.1 rfl
          simp [this]
      rw [e1]
      have e2 : max X (-X) = (X.natAbs : Int) := by omega
      rw [e2]
  · rw [if_neg hlt, if_neg (by omega)]
end Go.Proofs.YtfiifppmpehncaaDoor
