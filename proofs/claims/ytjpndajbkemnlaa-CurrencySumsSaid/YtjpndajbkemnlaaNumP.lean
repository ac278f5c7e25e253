/-
  Add as a whole; numbers by their worths.
-/
import Derived.Test.YtjpndajbkemnlaaNow
import Derived.Test.YtjpndajbkemnlaaMath
import Derived.Test.YtjpndajbkemnlaaRead
namespace Go.Proofs.Ytjpndajbkemnlaa
open Go.RowKit

theorem add_any (g g' : Bool) (c c' s s' : Int) (w : World) :
    Calls Try.prog 16 #[.agg #[.bool g, .int .i64 c, .int .i64 s], .agg #[.bool g', .int .i64 c', .int .i64 s']] w fun e w' =>
      e = .returned (numV (addN g c s g' c' s').1 (addN g c s g' c' s').2.1 (addN g c s g' c' s').2.2.1 (addN g c s g' c' s').2.2.2) ∧ Below w.heap.size w w' := by
  cases ha : goodB g c s
  · rw [addN, ha]
    exact add_bad1 g g' c c' s s' w ha
  · cases hb : goodB g' c' s'
    · rw [addN, ha, hb]
      exact add_bad2 g g' c c' s s' w ha hb
    · rw [addN, ha, hb]
      have h1 := atScale_bd g c s (max s s') (goodB_parts ha).1
      have h2 := atScale_bd g' c' s' (max s s') (goodB_parts hb).1
      by_cases hx : -1000000000000000000 < atScale g c s (max s s') + atScale g' c' s' (max s s') ∧ atScale g c s (max s s') + atScale g' c' s' (max s s') < 1000000000000000000
      · rw [if_pos (show (true && true) = true from rfl), if_pos hx]
        exact add_good g g' c c' s s' w (max s s') _ _ _ _ rfl ha hb fun w' => signed_small _ _ w' hx.1 hx.2
      · rw [if_pos (show (true && true) = true from rfl), if_neg hx]
        exact add_good g g' c c' s s' w (max s s') _ _ _ _ rfl ha hb fun w' => signed_great _ _ w' (by omega) (by omega) (by omega)

/-- A good number, and what it is worth. -/
def Num (g : Bool) (c s W : Int) : Prop := goodB g c s = true ∧ wo g c s = W

theorem Num.neg {g : Bool} {c s W : Int} (h : Num g c s W) : Num (negB g c) c s (-W) := ⟨neg_good h.1, by rw [neg_wo, h.2]⟩
theorem Num.least {g : Bool} {c s W : Int} (h : Num g c s W) : ∃ c' s', Num g c' s' W ∧ (s' = 0 ∨ c' % 10 ≠ 0) ∧ ∀ w, Calls Try.prog 17 #[agg g c s] w fun e w' => e = .returned (agg g c' s') ∧ Below w.heap.size w w' := by
  obtain ⟨hg, hw⟩ := h
  obtain ⟨_, _, h2, h5, _⟩ := goodB_parts hg
  obtain ⟨s, rfl⟩ : ∃ n : Nat, s = n := ⟨s.toNat, by omega⟩
  refine ⟨(lst s c).1, (lst s c).2, ⟨lst_good g s c hg, by rw [lst_wo g s c (by omega), hw]⟩, ?_, fun w => least_good g c s w hg⟩
  have := lst_least s c
  omega
/-- What a sum is. -/
theorem Num.add {g g' : Bool} {c c' s s' W W' : Int} (h : Num g c s W) (h' : Num g' c' s' W') :
    (∃ g2 c2 s2, Num g2 c2 s2 (W + W') ∧ s2 = max s s' ∧ addN g c s g' c' s' = (g2, c2, s2, 0)) ∨ addN g c s g' c' s' = (false, 0, 0, 11) := by
  obtain ⟨_, _, a2, a5, _⟩ := goodB_parts h.1
  obtain ⟨_, _, b2, b5, _⟩ := goodB_parts h'.1
  rw [add_ex h.1 h'.1]
  by_cases hz : -1000000000000000000 < ex g c s (max s s') + ex g' c' s' (max s s') ∧ ex g c s (max s s') + ex g' c' s' (max s s') < 1000000000000000000
  · rw [if_pos hz]
    refine .inl ⟨_, _, _, ⟨ofZ_good hz (by omega : 0 ≤ max s s') (by omega), ?_⟩, rfl, rfl⟩
    rw [wo, ex, ofZ_sg, Int.add_mul, ← ex_wo g c s _ (by omega) (by omega), ← ex_wo g' c' s' _ (by omega) (by omega), h.2, h'.2]
  · rw [if_neg hz]
    exact .inr rfl
/-- Two good numbers of one scale that are worth the same are one. -/
theorem Num.same {g g' : Bool} {c c' s s' W W' : Int} (h : Num g c s W) (h' : Num g' c' s' W') (hs : s = s') (hW : W = W') : g = g' ∧ c = c' := by
  obtain ⟨hg, hw⟩ := h
  obtain ⟨hg', hw'⟩ := h'
  subst hs
  have e : sg g c = sg g' c' := by
    have : sg g c * p10 (5 - s).toNat = sg g' c' * p10 (5 - s).toNat := by
      show wo g c s = wo g' c' s
      rw [hw, hw', hW]
    have hp := p10_pos (5 - s).toNat
    exact Int.eq_of_mul_eq_mul_right (by omega) this
  have e1 := good_ofZ hg
  have e2 := good_ofZ hg'
  rw [e, e2] at e1
  exact ⟨(congrArg (·.1) e1).symm, (congrArg (·.2.1) e1).symm⟩
theorem addN_comm {g g' : Bool} {c c' s s' : Int} (ha : goodB g c s = true) (hb : goodB g' c' s' = true) : addN g' c' s' g c s = addN g c s g' c' s' := by
  rw [add_ex ha hb, add_ex hb ha, Int.max_comm s' s, Int.add_comm (ex g' c' s' _)]

end Go.Proofs.Ytjpndajbkemnlaa
