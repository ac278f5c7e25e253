/-
  References by slashes: what neither begins nor ends with a slash and has no two side by side is what has no two of them side by side when one more is put at each end.
-/
import Derived.Test.YtgdiejjjlchkpaaDoorRfN
import Derived.Lib.IndexMore
namespace Go.Proofs.YtgdiejjjlchkpaaDoor

theorem dbl_cons (b : UInt8) (l : List UInt8) : Lib.contains (b :: l) [47, 47] = (([47, 47] : List UInt8).isPrefixOf (b :: l) || Lib.contains l [47, 47]) := by
  have hg := Lib.index_ge l [47, 47]
  unfold Lib.contains
  rw [Lib.index]
  by_cases h : ([47, 47] : List UInt8).isPrefixOf (b :: l) = true
  · rw [if_pos h, h]; rfl
  · rw [if_neg h, Bool.eq_false_iff.2 h, Bool.false_or]
    by_cases e : (Lib.index l [47, 47] == -1) = true
    · rw [if_pos e, eq_of_beq e]
    · rw [if_neg e]
      have e2 : ¬ Lib.index l [47, 47] = -1 := fun h => e (beq_iff_eq.2 h)
      rw [decide_eq_true (by omega), decide_eq_true (by omega)]
theorem pre_two (b : UInt8) (l : List UInt8) : ([47, 47] : List UInt8).isPrefixOf (b :: l) = true ↔ b = 47 ∧ l[0]? = some 47 := by
  cases l with
  | nil => simp [List.isPrefixOf]
  | cons c l => simp [List.isPrefixOf]; constructor <;> (rintro ⟨h1, h2⟩; exact ⟨h1.symm, h2.symm⟩)
theorem dbl_iff : ∀ l : List UInt8, Lib.contains l [47, 47] = true ↔ ∃ i : Nat, l[i]? = some (47 : UInt8) ∧ l[i + 1]? = some (47 : UInt8)
  | [] => by
    constructor
    · intro h; exact absurd h (by decide)
    · rintro ⟨i, h, _⟩; simp at h
  | b :: l => by
    rw [dbl_cons, Bool.or_eq_true, pre_two, dbl_iff l]
    constructor
    · rintro (⟨rfl, h⟩ | ⟨i, h1, h2⟩)
      · exact ⟨0, rfl, by simpa using h⟩
      · exact ⟨i + 1, by simpa using h1, by simpa using h2⟩
    · rintro ⟨i, h1, h2⟩
      cases i with
      | zero => exact .inl ⟨by simpa using h1, by simpa using h2⟩
      | succ i => exact .inr ⟨i, by simpa using h1, by simpa using h2⟩

/-- The text with one more slash at each end. -/
def slL (l : List UInt8) : List UInt8 := 47 :: (l ++ [47])
theorem slL_in (l : List UInt8) (i : Nat) (h : i < l.length) : (slL l)[i + 1]? = some (l.getD i 0) := by
  rw [slL, List.getElem?_cons_succ, List.getElem?_append_left h, List.getD_eq_getElem?_getD, List.getElem?_eq_getElem h]; rfl
theorem slL_end (l : List UInt8) : (slL l)[l.length + 1]? = some 47 := by
  rw [slL, List.getElem?_cons_succ, List.getElem?_append_right (Nat.le_refl _), Nat.sub_self]; rfl
theorem slL_out (l : List UInt8) (i : Nat) (h : l.length < i) : (slL l)[i + 1]? = none := by
  rw [slL, List.getElem?_cons_succ, List.getElem?_eq_none (by simp; omega)]
theorem rfTo_iff (l : List UInt8) (k : Nat) : rfTo l k = true ↔ ∀ i, i < k → rfAt l i = true := by
  rw [rfTo, List.all_eq_true]
  exact ⟨fun h i hi => h i (List.mem_range.2 hi), fun h i hi => h i (List.mem_range.1 hi)⟩
theorem rfAt_iff (l : List UInt8) (i : Nat) : rfAt l i = true ↔ inX (l.getD i 0) = true ∧ (l.getD i 0 = 47 → i ≠ 0 ∧ i + 1 ≠ l.length ∧ l.getD (i - 1) 0 ≠ 47) := by
  rw [rfAt, Bool.and_eq_true, Bool.not_eq_true', Bool.and_eq_false_iff, Bool.or_eq_false_iff, Bool.or_eq_false_iff, decide_eq_false_iff_not, decide_eq_false_iff_not, decide_eq_false_iff_not, decide_eq_false_iff_not]
  constructor
  · rintro ⟨h, h1 | h2⟩
    · exact ⟨h, fun e => absurd e h1⟩
    · exact ⟨h, fun _ => ⟨h2.1.1, h2.1.2, h2.2⟩⟩
  · rintro ⟨h, h1⟩
    by_cases e : l.getD i 0 = 47
    · exact ⟨h, .inr ⟨⟨(h1 e).1, (h1 e).2.1⟩, (h1 e).2.2⟩⟩
    · exact ⟨h, .inl e⟩

theorem rf_good (l : List UInt8) : (decide (1 ≤ l.length) && rfTo l l.length) = (!(Lib.contains (slL l) [47, 47]) && l.all inX) := by
  rw [Bool.eq_iff_iff, Bool.and_eq_true, Bool.and_eq_true, Bool.not_eq_true', ← Bool.not_eq_true, dbl_iff, rfTo_iff, decide_eq_true_eq, List.all_eq_true]
  constructor
  · rintro ⟨h1, h⟩
    have hi : ∀ i, i < l.length → inX (l.getD i 0) = true ∧ (l.getD i 0 = 47 → i ≠ 0 ∧ i + 1 ≠ l.length ∧ l.getD (i - 1) 0 ≠ 47) := fun i hi => (rfAt_iff l i).1 (h i hi)
    refine ⟨?_, ?_⟩
    · rintro ⟨i, a, b⟩
      by_cases h0 : i = 0
      · subst h0
        rw [slL_in l 0 h1] at b
        exact absurd rfl ((hi 0 h1).2 (Option.some.inj b)).1
      · obtain ⟨j, rfl⟩ : ∃ j, i = j + 1 := ⟨i - 1, by omega⟩
        by_cases hj : j + 1 < l.length
        · rw [slL_in l j (by omega)] at a
          rw [slL_in l (j + 1) hj] at b
          exact ((hi (j + 1) hj).2 (Option.some.inj b)).2.2 (Option.some.inj a)
        · by_cases hj2 : j < l.length
          · rw [slL_in l j hj2] at a
            exact ((hi j hj2).2 (Option.some.inj a)).2.1 (by omega)
          · rw [slL_out l (j + 1) (by omega)] at b
            cases b
    · intro x hx
      obtain ⟨i, hi2, rfl⟩ := List.getElem_of_mem hx
      have := (hi i hi2).1
      rwa [List.getD_eq_getElem?_getD, List.getElem?_eq_getElem hi2] at this
  · rintro ⟨hno, hall⟩
    have h1 : 1 ≤ l.length := by
      apply Decidable.byContradiction
      intro h
      have e : l.length = 0 := by omega
      refine hno ⟨0, rfl, ?_⟩
      have := slL_end l
      rwa [e] at this
    refine ⟨h1, fun i hi => (rfAt_iff l i).2 ⟨?_, fun e => ⟨?_, ?_, ?_⟩⟩⟩
    · rw [List.getD_eq_getElem?_getD, List.getElem?_eq_getElem hi]
      exact hall _ (List.getElem_mem hi)
    · rintro rfl
      exact hno ⟨0, rfl, by rw [slL_in l 0 hi, e]⟩
    · intro e2
      refine hno ⟨i + 1, by rw [slL_in l i hi, e], ?_⟩
      have := slL_end l
      rwa [← e2] at this
    · intro e2
      by_cases h0 : i = 0
      · subst h0
        exact hno ⟨0, rfl, by rw [slL_in l 0 hi, e]⟩
      · refine hno ⟨i - 1 + 1, by rw [slL_in l (i - 1) (by omega), e2], ?_⟩
        rw [show i - 1 + 1 = i by omega, slL_in l i hi, e]
theorem rf_is (l : List UInt8) (m : Nat) : rfV l m = (decide (l.length ≤ m) && (!(Lib.contains (slL l) [47, 47]) && l.all inX)) := by
  rw [← rf_good, rfV, ← Bool.and_assoc, ← Bool.and_assoc, Bool.and_comm (decide (1 ≤ l.length))]
end Go.Proofs.YtgdiejjjlchkpaaDoor
