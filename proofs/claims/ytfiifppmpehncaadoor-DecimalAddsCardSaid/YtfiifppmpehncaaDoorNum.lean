/-
  Numbers by their worths: the contracts of Cmp, Neg, Least, Add said of worths; boxes.
-/
import Derived.Test.YtfiifppmpehncaaDoorMath
import Derived.Test.YtfiifppmpehncaaDoorWakes
namespace Go.Proofs.YtfiifppmpehncaaDoor
open Go.RowKit Go.Shelf

/-- A good number, and what it is worth. -/
def Num (g : Bool) (c s W : Int) : Prop := goodB g c s = true ∧ wo g c s = W
abbrev agg (g : Bool) (c s : Int) : Value := .agg #[.bool g, .int .i64 c, .int .i64 s]

theorem cmp_num {g g' : Bool} {c c' s s' W W' : Int} (h : Num g c s W) (h' : Num g' c' s' W') (w : World) :
    Calls Tryd.prog 23 #[agg g c s, agg g' c' s'] w fun e w' => e = .returned (.int .i64 (cmpZ W W')) ∧ Below w.heap.size w w' := by
  have := cmp_good g g' c c' s s' w h.1 h'.1
  rw [cmp_wo h.1 h'.1, h.2, h'.2] at this
  exact this
theorem Num.neg {g : Bool} {c s W : Int} (h : Num g c s W) : Num (negB g c) c s (-W) := ⟨neg_good h.1, by rw [neg_wo, h.2]⟩
theorem Num.least {g : Bool} {c s W : Int} (h : Num g c s W) : ∃ c' s', Num g c' s' W ∧ (s' = 0 ∨ c' % 10 ≠ 0) ∧ ∀ w, Calls Tryd.prog 19 #[agg g c s] w fun e w' => e = .returned (agg g c' s') ∧ Below w.heap.size w w' := by
  obtain ⟨hg, hw⟩ := h
  obtain ⟨_, _, h2, h5, _⟩ := goodB_parts hg
  obtain ⟨s, rfl⟩ : ∃ n : Nat, s = n := ⟨s.toNat, by omega⟩
  refine ⟨(lst s c).1, (lst s c).2, ⟨lst_good g s c hg, by rw [lst_wo g s c (by omega), hw]⟩, ?_, fun w => least_good g c s w hg⟩
  have := lst_least s c
  omega
/-- What a sum is. -/
theorem Num.add {g g' : Bool} {c c' s s' W W' : Int} (h : Num g c s W) (h' : Num g' c' s' W') :
    (∃ g2 c2 s2, Num g2 c2 s2 (W + W') ∧ s2 = max s s' ∧ addN g c s g' c' s' = (g2, c2, s2, 0)) ∨ addN g c s g' c' s' = (false, 0, 0, 11) := by
  obtain ⟨_, _, a2, a5, _⟩ := goodB_parts h.1
  obtain ⟨_, _, b2, b5, _⟩ := goodB_parts h'.1
  rw [add_ex h.1 h'.1]
  by_cases hz : -1000000000000000000 < ex g c s (max s s') + ex g' c' s' (max s s') ∧ ex g c s (max s s') + ex g' c' s' (max s s') < 1000000000000000000
  · rw [if_pos hz]
    refine .inl ⟨_, _, _, ⟨ofZ_good hz (by omega : 0 ≤ max s s') (by omega), ?_⟩, rfl, rfl⟩
    rw [wo, ex, ofZ_sg, Int.add_mul, ← ex_wo g c s _ (by omega) (by omega), ← ex_wo g' c' s' _ (by omega) (by omega), h.2, h'.2]
  · rw [if_neg hz]
    exact .inr rfl
/-- Two good numbers of one scale that are worth the same are one. -/
theorem Num.same {g g' : Bool} {c c' s s' W W' : Int} (h : Num g c s W) (h' : Num g' c' s' W') (hs : s = s') (hW : W = W') : g = g' ∧ c = c' := by
  obtain ⟨hg, hw⟩ := h
  obtain ⟨hg', hw'⟩ := h'
  subst hs
  have e : sg g c = sg g' c' := by
    have : sg g c * p10 (5 - s).toNat = sg g' c' * p10 (5 - s).toNat := by
      show wo g c s = wo g' c' s
      rw [hw, hw', hW]
    have hp := p10_pos (5 - s).toNat
    exact Int.eq_of_mul_eq_mul_right (by omega) this
  have e1 := good_ofZ hg
  have e2 := good_ofZ hg'
  rw [e, e2] at e1
  exact ⟨(congrArg (·.1) e1).symm, (congrArg (·.2.1) e1).symm⟩
theorem addN_comm {g g' : Bool} {c c' s s' : Int} (ha : goodB g c s = true) (hb : goodB g' c' s' = true) : addN g' c' s' g c s = addN g c s g' c' s' := by
  rw [add_ex ha hb, add_ex hb ha, Int.max_comm s' s, Int.add_comm (ex g' c' s' _)]

/-- Numbers in blocks. -/
def Boxes (w : World) : List (Nat × Bool × Int × Int) → Prop
  | [] => True
  | x :: l => BoxNum w x.1 x.2.1 x.2.2.1 x.2.2.2 ∧ Boxes w l
theorem Boxes.below {w w' : World} (hb : Below w.heap.size w w') : ∀ {l}, Boxes w l → Boxes w' l
  | [], _ => trivial
  | _ :: _, h => ⟨h.1.below hb, Boxes.below hb h.2⟩
theorem Boxes.alloc {w : World} {l} (o : Obj) (h : Boxes w l) : Boxes (w.alloc o) l := h.below ((Below.refl _ _).alloc (Nat.le_refl _) _)
/-- What stands when a call has returned: nothing that lay before the law began has turned, and the boxes hold what they held. -/
def Now (w0 w : World) (l : List (Nat × Bool × Int × Int)) : Prop := Below w0.heap.size w0 w ∧ Boxes w l
theorem Now.below {w0 w w' : World} {l} (h : Now w0 w l) (hb : Below w.heap.size w w') : Now w0 w' l := ⟨h.1.trans (hb.mono h.1.size), h.2.below hb⟩
theorem Now.alloc {w0 w : World} {l} (h : Now w0 w l) (o : Obj) : Now w0 (w.alloc o) l := ⟨h.1.alloc h.1.size _, h.2.alloc o⟩
theorem Now.drew {w0 w : World} {l} (h : Now w0 w l) : Now w0 w.drew l := h.below (Below.refl _ _).drew
theorem Now.drewN {w0 w : World} {l} (h : Now w0 w l) (n : Nat) : Now w0 (w.drewN n) l := h.below (below_drewN (Below.refl _ _) n)
theorem Now.start (w : World) : Now w w [] := ⟨Below.refl _ _, trivial⟩
/-- A new box. -/
theorem Now.box {w0 w : World} {l} (h : Now w0 w l) (g : Bool) (c s : Int) (t : TypeId) : Now w0 (w.alloc (.cells #[.bool g, .int .i64 c, .int .i64 s] t)) ((w.heap.size, g, c, s) :: l) :=
  ⟨(h.alloc _).1, BoxNum.new w g c s t, (h.alloc _).2⟩
end Go.Proofs.YtfiifppmpehncaaDoor
