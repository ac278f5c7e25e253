/-
  The document's own answers: Add of numbers that are not good.
-/
import Derived.Test.YtfiifppmpehncaaDoorRefA
import Derived.Test.YtfiifppmpehncaaDoorNum
namespace Go.Proofs.YtfiifppmpehncaaDoor
open Go.RowKit Go.Shelf

set_option maxRecDepth 100000 in
set_option maxHeartbeats 1000000 in
theorem refAdd_bad (g g' : Bool) (c c' s s' : Int) (w : World) (hbad : goodB g c s = false ∨ goodB g' c' s' = false) :
    Calls Tryd.prog 22 #[agg g c s, agg g' c' s'] w fun e w' => e = .returned (numV false 0 0 1) ∧ Below w.heap.size w w' := by
  have N0 := hid ((((Now.start w).box g c s 24).box g' c' s' 24).box false 0 0 24)
  have F0 : Hid (Unfrozen (((w.alloc (.cells #[.bool g, .int .i64 c, .int .i64 s] 24)).alloc (.cells #[.bool g', .int .i64 c', .int .i64 s'] 24)).alloc (.cells #[.bool false, .int .i64 0, .int .i64 0] 24)) (w.heap.size + 1 + 1)) := fun i => by simp [go_sem]
  simp only [World.size_alloc] at N0
  have HB := hid hbad
  clear hbad
  go_enter Tryd.func22, Tryd.ntmps22
  obtain ⟨bb, ⟨z0, x0, y0, t0⟩, ⟨z1, x1, y1, t1⟩, ⟨z2, x2, y2, t2⟩, _⟩ := N0.out
  go_wp2_with fail
  with_reducible refine (refGood_any _ _ _ _).mono ?_
  rintro e w1 ⟨rfl, h1⟩
  have F1 := hid (unfrozen_of h1 z0 F0.out)
  have N1 := hid (N0.out.below h1)
  clear bb z0 x0 y0 t0 z1 x1 y1 t1 z2 x2 y2 t2 N0 F0 h1
  obtain ⟨bb, ⟨z0, x0, y0, t0⟩, ⟨z1, x1, y1, t1⟩, ⟨z2, x2, y2, t2⟩, _⟩ := N1.out
  cases hA : goodB g c s
  · clear hA
    have e0 := F1.out 0
    have e1 := F1.out 1
    have e2 := F1.out 2
    go_wp2
    refine bodyPost_ret (v := numV false 0 0 1) (by simp [results, Tryd.results22, go_sem, *]) rfl ⟨rfl, ?_⟩
    go_grown
  · have HG2 : Hid (goodB g' c' s' = false) := by
      show _ = _
      rcases HB.out with h | h
      · rw [hA] at h; cases h
      · exact h
    clear hA
    go_wp2_with fail
    with_reducible refine (refGood_any _ _ _ _).mono ?_
    rintro e w2 ⟨rfl, h2⟩
    rw [HG2.out]
    have F2 := hid (unfrozen_of h2 z0 F1.out)
    have N2 := hid (N1.out.below h2)
    clear bb z0 x0 y0 t0 z1 x1 y1 t1 z2 x2 y2 t2 N1 F1 h2
    obtain ⟨bb, ⟨z0, x0, y0, t0⟩, ⟨z1, x1, y1, t1⟩, ⟨z2, x2, y2, t2⟩, _⟩ := N2.out
    have e0 := F2.out 0
    have e1 := F2.out 1
    have e2 := F2.out 2
    go_wp2
    refine bodyPost_ret (v := numV false 0 0 1) (by simp [results, Tryd.results22, go_sem, *]) rfl ⟨rfl, ?_⟩
    go_grown

set_option maxHeartbeats 400000 in
/-- Cmp of numbers of which one is not good. -/
theorem cmp_bad (g g' : Bool) (c c' s s' : Int) (w : World) (hbad : goodB g c s = false ∨ goodB g' c' s' = false) :
    Calls Tryd.prog 23 #[agg g c s, agg g' c' s'] w fun e w' => e = .returned (.int .i64 0) ∧ Below w.heap.size w w' := by
  have N0 := hid (((Now.start w).box g c s 24).box g' c' s' 24)
  simp only [World.size_alloc] at N0
  have HB := hid hbad
  clear hbad
  go_enter Tryd.func23, Tryd.ntmps23
  go_wp2_with fail
  with_reducible refine (good_any _ _ _ _).mono ?_
  rintro e w1 ⟨rfl, h1⟩
  have N1 := hid (N0.out.below h1)
  obtain ⟨bb, ⟨z1, x1, y1, t1⟩, ⟨z2, x2, y2, t2⟩, _⟩ := N1.out
  clear h1 N0
  cases hA : goodB g c s
  · clear hA
    go_wp2
    go_returns
    exact ⟨rfl, bb⟩
  · have HG2 : Hid (goodB g' c' s' = false) := by
      show _ = _
      rcases HB.out with h | h
      · rw [hA] at h; cases h
      · exact h
    clear hA
    go_wp2_with fail
    with_reducible refine (good_any _ _ _ _).mono ?_
    rintro e w2 ⟨rfl, h2⟩
    rw [HG2.out]
    have bb2 := bb.trans (h2.mono bb.size)
    go_wp2
    go_returns
    exact ⟨rfl, bb2⟩
end Go.Proofs.YtfiifppmpehncaaDoor
