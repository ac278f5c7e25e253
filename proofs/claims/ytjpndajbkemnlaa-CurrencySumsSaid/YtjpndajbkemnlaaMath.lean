/-
  Plain numbers: what sums and comparisons are worth.
-/
import Derived.Test.YtjpndajbkemnlaaPlain
namespace Go.Proofs.Ytjpndajbkemnlaa

/-- A coefficient with its sign. -/
def sg (g : Bool) (c : Int) : Int := if g then -c else c
/-- The exact coefficient at the scale m. -/
def ex (g : Bool) (c s m : Int) : Int := sg g c * p10 (m - s).toNat
/-- A number's worth, in units of 10^-5. -/
def wo (g : Bool) (c s : Int) : Int := ex g c s 5

theorem p10_add (j : Nat) : ∀ k, p10 (j + k) = p10 j * p10 k
  | 0 => by simp [p10]
  | k + 1 => by show p10 (j + k) * 10 = p10 j * (p10 k * 10); rw [p10_add j k, Int.mul_assoc]

theorem sg_bd {g : Bool} {c s : Int} (h : goodB g c s = true) : -1000000000000000000 < sg g c ∧ sg g c < 1000000000000000000 := by
  obtain ⟨h0, h1, _⟩ := goodB_parts h
  cases g <;> simp [sg] <;> omega

/-- At its own scale a coefficient is as it was. -/
theorem atScale_same {g : Bool} {c s : Int} (h : goodB g c s = true) : atScale g c s s = sg g c := by
  obtain ⟨h0, h1, _⟩ := goodB_parts h
  have e : (s - s).toNat = 0 := by omega
  unfold atScale
  rw [e]
  have e2 : p10 0 = 1 := rfl
  rw [e2, Int.ediv_one, Int.mul_one, if_pos (show c < 2000000000000000000 by omega)]
  cases g <;> simp [sg]
theorem ex_same (g : Bool) (c s : Int) : ex g c s s = sg g c := by
  have e : (s - s).toNat = 0 := by omega
  unfold ex
  rw [e]
  exact Int.mul_one _

theorem p10_div : ∀ k, k ≤ 5 → (2000000000000000000 / p10 k) * p10 k = 2000000000000000000
  | 0, _ => by decide
  | 1, _ => by decide
  | 2, _ => by decide
  | 3, _ => by decide
  | 4, _ => by decide
  | 5, _ => by decide
  | k + 6, h => by omega

/-- At a greater scale it is exact, or both are beyond, with one sign. -/
theorem atScale_ex {g : Bool} {c s m : Int} (h : goodB g c s = true) (_h3 : s ≤ m) (h4 : m ≤ 5) : atScale g c s m = ex g c s m ∨
    (atScale g c s m = 2000000000000000000 ∧ 2000000000000000000 ≤ ex g c s m) ∨ (atScale g c s m = -2000000000000000000 ∧ ex g c s m ≤ -2000000000000000000) := by
  obtain ⟨h0, h1, h2, _, _⟩ := goodB_parts h
  have hp := p10_pos (m - s).toNat
  have hp5 := p10_5 (m - s).toNat (by omega)
  unfold atScale ex
  have h5 := p10_div (m - s).toNat (by omega)
  generalize p10 (m - s).toNat = p at hp hp5 h5
  by_cases hc : c < 2000000000000000000 / p
  · rw [if_pos hc]
    refine .inl ?_
    cases g <;> simp [sg, Int.neg_mul]
  · rw [if_neg hc]
    have h6 : (2000000000000000000 / p) * p ≤ c * p := Int.mul_le_mul_of_nonneg_right (by omega) (by omega)
    cases g
    · refine .inr (.inl ⟨by simp, ?_⟩)
      simp [sg]; omega
    · refine .inr (.inr ⟨by simp, ?_⟩)
      simp [sg, Int.neg_mul]; omega

/-- Of two numbers, at the greater one of their scales, one is as it was. -/
theorem two_cases {g g' : Bool} {c c' s s' : Int} (ha : goodB g c s = true) (hb : goodB g' c' s' = true) :
    (atScale g c s (max s s') = ex g c s (max s s') ∧ -1000000000000000000 < ex g c s (max s s') ∧ ex g c s (max s s') < 1000000000000000000) ∨
    (atScale g' c' s' (max s s') = ex g' c' s' (max s s') ∧ -1000000000000000000 < ex g' c' s' (max s s') ∧ ex g' c' s' (max s s') < 1000000000000000000) := by
  by_cases h : s ≤ s'
  · have e : max s s' = s' := by omega
    rw [e]
    refine .inr ?_
    rw [atScale_same hb, ex_same]
    exact ⟨rfl, sg_bd hb⟩
  · have e : max s s' = s := by omega
    rw [e]
    refine .inl ?_
    rw [atScale_same ha, ex_same]
    exact ⟨rfl, sg_bd ha⟩

theorem cmp_ex {g g' : Bool} {c c' s s' : Int} (ha : goodB g c s = true) (hb : goodB g' c' s' = true) :
    cmpZ (atScale g c s (max s s')) (atScale g' c' s' (max s s')) = cmpZ (ex g c s (max s s')) (ex g' c' s' (max s s')) := by
  obtain ⟨_, _, _, a5, _⟩ := goodB_parts ha
  obtain ⟨_, _, _, b5, _⟩ := goodB_parts hb
  have h1 := atScale_ex ha (m := max s s') (by omega) (by omega)
  have h2 := atScale_ex hb (m := max s s') (by omega) (by omega)
  have h3 := two_cases ha hb
  unfold cmpZ
  generalize atScale g c s (max s s') = A at *
  generalize atScale g' c' s' (max s s') = B at *
  generalize ex g c s (max s s') = X at *
  generalize ex g' c' s' (max s s') = Y at *
  by_cases e1 : X < Y
  · rw [if_pos e1, if_pos (by omega)]
  · rw [if_neg e1, if_neg (by omega)]
    by_cases e2 : Y < X
    · rw [if_pos e2, if_pos (by omega)]
    · rw [if_neg e2, if_neg (by omega)]

theorem ex_wo (g : Bool) (c s m : Int) (h : s ≤ m) (h5 : m ≤ 5) : wo g c s = ex g c s m * p10 (5 - m).toNat := by
  unfold wo ex
  have e : (5 - s).toNat = (m - s).toNat + (5 - m).toNat := by omega
  rw [e, p10_add, Int.mul_assoc]
theorem cmpZ_mul (x y p : Int) (h : 1 ≤ p) : cmpZ (x * p) (y * p) = cmpZ x y := by
  unfold cmpZ
  by_cases e1 : x < y
  · rw [if_pos e1, if_pos (Int.mul_lt_mul_of_pos_right e1 (by omega))]
  · rw [if_neg e1, if_neg (fun h2 => e1 (Int.lt_of_mul_lt_mul_right h2 (by omega)))]
    by_cases e2 : y < x
    · rw [if_pos e2, if_pos (Int.mul_lt_mul_of_pos_right e2 (by omega))]
    · rw [if_neg e2, if_neg (fun h2 => e2 (Int.lt_of_mul_lt_mul_right h2 (by omega)))]
/-- How two numbers stand: by their worths. -/
theorem cmp_wo {g g' : Bool} {c c' s s' : Int} (ha : goodB g c s = true) (hb : goodB g' c' s' = true) :
    cmpZ (atScale g c s (max s s')) (atScale g' c' s' (max s s')) = cmpZ (wo g c s) (wo g' c' s') := by
  obtain ⟨_, _, _, a5, _⟩ := goodB_parts ha
  obtain ⟨_, _, _, b5, _⟩ := goodB_parts hb
  rw [cmp_ex ha hb, ex_wo g c s (max s s') (by omega) (by omega), ex_wo g' c' s' (max s s') (by omega) (by omega), cmpZ_mul _ _ _ (p10_pos _)]

/-- The number of least scale is worth as much, and good. -/
theorem lst_wo (g : Bool) : ∀ (s : Nat) (c : Int), s ≤ 5 → wo g (lst s c).1 (lst s c).2 = wo g c s
  | 0, c, _ => rfl
  | s + 1, c, h => by
    by_cases hc : c % 10 = 0
    · rw [lst_go hc, lst_wo g s (c / 10) (by omega)]
      unfold wo ex
      have e : (5 - (s : Int)).toNat = (5 - ((s + 1 : Nat) : Int)).toNat + 1 := by omega
      have e2 : p10 ((5 - ((s + 1 : Nat) : Int)).toNat + 1) = p10 (5 - ((s + 1 : Nat) : Int)).toNat * 10 := rfl
      rw [e, e2]
      generalize p10 (5 - ((s + 1 : Nat) : Int)).toNat = p
      have e3 : sg g c = sg g (c / 10) * 10 := by cases g <;> simp [sg] <;> omega
      rw [e3, Int.mul_assoc, Int.mul_comm p 10]
    · rw [lst_stop (by omega) hc]
theorem lst_good (g : Bool) : ∀ (s : Nat) (c : Int), goodB g c s = true → goodB g (lst s c).1 (lst s c).2 = true
  | 0, c, h => h
  | s + 1, c, h => by
    by_cases hc : c % 10 = 0
    · rw [lst_go hc]
      refine lst_good g s (c / 10) ?_
      obtain ⟨h0, h1, h2, h3, h4⟩ := goodB_parts h
      unfold goodB
      simp only [Bool.and_eq_true, decide_eq_true_eq, Bool.or_eq_true, Bool.not_eq_true', beq_eq_false_iff_ne, ne_eq]
      refine ⟨by omega, by omega, by omega, by omega, ?_⟩
      by_cases hz : c = 0
      · exact .inr (h4 hz)
      · exact .inl (by omega)
    · rw [lst_stop (by omega) hc]; exact h
theorem lst_least : ∀ (s : Nat) (c : Int), (lst s c).2 = 0 ∨ (lst s c).1 % 10 ≠ 0
  | 0, _ => .inl rfl
  | s + 1, c => by
    by_cases hc : c % 10 = 0
    · rw [lst_go hc]; exact lst_least s _
    · rw [lst_stop (by omega) hc]; exact .inr hc

theorem neg_wo (g : Bool) (c s : Int) : wo (negB g c) c s = - wo g c s := by
  unfold wo ex
  have e : sg (negB g c) c = - sg g c := by
    unfold negB sg
    by_cases hc : c = 0
    · subst hc; cases g <;> simp
    · cases g <;> simp [hc]
  rw [e, Int.neg_mul]
theorem neg_good {g : Bool} {c s : Int} (h : goodB g c s = true) : goodB (negB g c) c s = true := by
  obtain ⟨h0, h1, h2, h3, h4⟩ := goodB_parts h
  unfold goodB negB
  simp only [Bool.and_eq_true, decide_eq_true_eq, Bool.or_eq_true, Bool.not_eq_true', beq_eq_false_iff_ne, ne_eq]
  refine ⟨by omega, by omega, by omega, by omega, ?_⟩
  by_cases hz : c = 0
  · exact .inr (by simp [hz])
  · exact .inl hz
theorem cmpZ_neg (x y : Int) : cmpZ (-x) (-y) = cmpZ y x := by
  unfold cmpZ
  by_cases e1 : y < x
  · rw [if_pos (by omega), if_pos e1]
  · rw [if_neg (by omega), if_neg e1]
    by_cases e2 : x < y
    · rw [if_pos (by omega), if_pos e2]
    · rw [if_neg (by omega), if_neg e2]
theorem cmpZ_swap (x y : Int) : cmpZ x y = - cmpZ y x := by
  by_cases e1 : y < x
  · rw [← cmpZ_gt (by omega) e1, ← cmpZ_lt e1]; rfl
  · by_cases e2 : x < y
    · rw [← cmpZ_lt e2, ← cmpZ_gt e1 e2]
    · rw [← cmpZ_eq e2 e1, ← cmpZ_eq e1 e2]; rfl
theorem cmpZ_self (x : Int) : cmpZ x x = 0 := by unfold cmpZ; rw [if_neg (by omega), if_neg (by omega)]
theorem cmpZ_bd (x y : Int) : -1 ≤ cmpZ x y ∧ cmpZ x y ≤ 1 := by unfold cmpZ; split <;> (try split) <;> omega
theorem cmpZ_le {x y : Int} : cmpZ x y ≤ 0 ↔ x ≤ y := by
  unfold cmpZ
  by_cases e1 : x < y
  · rw [if_pos e1]; omega
  · rw [if_neg e1]
    by_cases e2 : y < x
    · rw [if_pos e2]; omega
    · rw [if_neg e2]; omega

/-- The number of a coefficient with its sign. -/
def ofZ (z s : Int) : Bool × Int × Int × Int := (decide (z < 0), max z (-z), s, 0)
/-- Sums, exactly. -/
theorem add_ex {g g' : Bool} {c c' s s' : Int} (ha : goodB g c s = true) (hb : goodB g' c' s' = true) :
    addN g c s g' c' s' = if -1000000000000000000 < ex g c s (max s s') + ex g' c' s' (max s s') ∧ ex g c s (max s s') + ex g' c' s' (max s s') < 1000000000000000000 then ofZ (ex g c s (max s s') + ex g' c' s' (max s s')) (max s s') else (false, 0, 0, 11) := by
  obtain ⟨_, _, _, a5, _⟩ := goodB_parts ha
  obtain ⟨_, _, _, b5, _⟩ := goodB_parts hb
  have h1 := atScale_ex ha (m := max s s') (by omega) (by omega)
  have h2 := atScale_ex hb (m := max s s') (by omega) (by omega)
  have h3 := two_cases ha hb
  unfold addN
  rw [ha, hb, if_pos (show (true && true) = true from rfl)]
  generalize atScale g c s (max s s') = A at *
  generalize atScale g' c' s' (max s s') = B at *
  generalize ex g c s (max s s') = X at *
  generalize ex g' c' s' (max s s') = Y at *
  by_cases hz : -1000000000000000000 < X + Y ∧ X + Y < 1000000000000000000
  · have e : A = X ∧ B = Y := by omega
    rw [e.1, e.2, if_pos hz, if_pos hz, ofZ]
  · rw [if_neg hz, if_neg (by omega)]
theorem ofZ_sg {z : Int} : sg (decide (z < 0)) (max z (-z)) = z := by
  unfold sg
  by_cases h : z < 0
  · rw [decide_eq_true h, if_pos rfl]; omega
  · rw [decide_eq_false h]; simp; omega
theorem ofZ_good {z s : Int} (h : -1000000000000000000 < z ∧ z < 1000000000000000000) (h0 : 0 ≤ s) (h5 : s ≤ 5) : goodB (decide (z < 0)) (max z (-z)) s = true := by
  unfold goodB
  simp only [Bool.and_eq_true, decide_eq_true_eq, Bool.or_eq_true, Bool.not_eq_true', beq_eq_false_iff_ne, ne_eq, decide_eq_false_iff_not]
  refine ⟨by omega, by omega, by omega, by omega, ?_⟩
  by_cases hz : z = 0
  · exact .inr (by omega)
  · exact .inl (by omega)
theorem good_ofZ {g : Bool} {c s : Int} (h : goodB g c s = true) : ofZ (sg g c) s = (g, c, s, 0) := by
  obtain ⟨h0, h1, h2, h3, h4⟩ := goodB_parts h
  unfold ofZ sg
  cases g
  · simp; omega
  · have : c ≠ 0 := fun e => by have := h4 e; cases this
    simp; omega
end Go.Proofs.Ytjpndajbkemnlaa
