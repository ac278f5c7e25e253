/-
  DecimalAdds's walk.
-/
import Derived.Test.YtfiifppmpehncaaDoorAddW
import Derived.Test.YtfiifppmpehncaaDoorAddB
import Derived.Lib.QuietBelow
namespace Go.Proofs.YtfiifppmpehncaaDoor
open Go.RowKit Go.Shelf

theorem refAdd_any (g g' : Bool) (c c' s s' : Int) (w : World) :
    Calls Tryd.prog 22 #[agg g c s, agg g' c' s'] w fun e w' => e = .returned (numV (addN g c s g' c' s').1 (addN g c s g' c' s').2.1 (addN g c s g' c' s').2.2.1 (addN g c s g' c' s').2.2.2) ∧ Below w.heap.size w w' := by
  cases ha : goodB g c s
  · rw [addN, ha]
    exact refAdd_bad g g' c c' s s' w (.inl ha)
  · cases hb : goodB g' c' s'
    · rw [addN, ha, hb]
      exact refAdd_bad g g' c c' s s' w (.inr hb)
    · obtain ⟨a0, _, a2, _⟩ := goodB_parts ha
      obtain ⟨b0, _, b2, _⟩ := goodB_parts hb
      obtain ⟨c, rfl⟩ : ∃ n : Nat, c = n := ⟨c.toNat, by omega⟩
      obtain ⟨s, rfl⟩ : ∃ n : Nat, s = n := ⟨s.toNat, by omega⟩
      obtain ⟨c', rfl⟩ : ∃ n : Nat, c' = n := ⟨c'.toNat, by omega⟩
      obtain ⟨s', rfl⟩ : ∃ n : Nat, s' = n := ⟨s'.toNat, by omega⟩
      exact refAdd_good g g' c c' s s' _ w ha hb rfl _ rfl
theorem refCmp_int (g g' : Bool) (c c' s s' : Int) (w : World) (ha : goodB g c s = true) (hb : goodB g' c' s' = true) :
    Calls Tryd.prog 24 #[agg g c s, agg g' c' s'] w fun e w' => e = .returned (.int .i64 (cmpZ (wo g c s) (wo g' c' s'))) ∧ Below w.heap.size w w' := by
  obtain ⟨a0, _, a2, _⟩ := goodB_parts ha
  obtain ⟨b0, _, b2, _⟩ := goodB_parts hb
  obtain ⟨c, rfl⟩ : ∃ n : Nat, c = n := ⟨c.toNat, by omega⟩
  obtain ⟨s, rfl⟩ : ∃ n : Nat, s = n := ⟨s.toNat, by omega⟩
  obtain ⟨c', rfl⟩ : ∃ n : Nat, c' = n := ⟨c'.toNat, by omega⟩
  obtain ⟨s', rfl⟩ : ∃ n : Nat, s' = n := ⟨s'.toNat, by omega⟩
  exact refCmp_any g g' c c' s s' w ha hb

set_option maxRecDepth 100000 in
set_option maxHeartbeats 16000000 in
theorem adds_any (g g' : Bool) (c c' s s' : Int) (w : World) (ht : Tab w) :
    Calls Tryd.prog 5 #[agg g c s, agg g' c' s'] w fun e w' => e = .returned (.bool true) ∧ Below w.heap.size w w' := by
  have HT := hid ht
  have HA := hid (fun w' => add_any g g' c c' s s' w')
  have HRA := hid (fun w' => refAdd_any g g' c c' s s' w')
  generalize addN g c s g' c' s' = r at HA HRA
  obtain ⟨r1, r2, r3, r4⟩ := r
  dsimp only at HA HRA
  have N0 := hid (((Now.start w).box g c s 24).box g' c' s' 24)
  simp only [World.size_alloc] at N0
  clear ht
  go_enter Tryd.func5, Tryd.ntmps5
  obtain ⟨bb, ⟨z1, x1, y1, t1⟩, ⟨z2, x2, y2, t2⟩, _⟩ := N0.out
  go_wp2_with fail
  with_reducible refine (HA.out _).mono ?_
  rintro e w1 ⟨rfl, h1⟩
  have N1 := hid ((N0.out.below h1).box r1 r2 r3 24)
  clear bb z1 x1 y1 t1 z2 x2 y2 t2 N0 h1
  obtain ⟨bb, ⟨z0, x0, y0, t0⟩, ⟨z1, x1, y1, t1⟩, ⟨z2, x2, y2, t2⟩, _⟩ := N1.out
  go_wp2_with fail
  with_reducible refine (HRA.out _).mono ?_
  rintro e w2 ⟨rfl, h2⟩
  have N2 := hid ((N1.out.below h2).box r1 r2 r3 24)
  clear bb z0 x0 y0 t0 z1 x1 y1 t1 z2 x2 y2 t2 N1 h2
  obtain ⟨U, hU⟩ : ∃ U, U = w2.alloc (.cells #[.bool r1, .int .i64 r2, .int .i64 r3] 24) := ⟨_, rfl⟩
  go_wp2_with fail
  rw [← hU] at N2 ⊢
  clear hU
  have hUb := N2.out.1
  have hUz := hUb.size
  have HT2 := hid (HT.out.below hUb)
  obtain ⟨_, ⟨_, p0, q0, t0⟩, ⟨_, p1, q1, t1⟩, ⟨_, p2, q2, t2⟩, ⟨_, p3, q3, t3⟩, _⟩ := N2.out
  have cW := hid (fun d os => Calls.regrown_of (wakes_any _ (HT2.out.below (below_regrown U d os))))
  have cR := hid (fun d os => Calls.regrown_of (refGood_any g c s (Sort.grow (redrawn U d) os)))
  have cS := hid (fun d os => Calls.regrown_of (refGood_any g' c' s' (Sort.grow (redrawn U d) os)))
  replace p0 := cell_regrown p0
  replace p1 := cell_regrown p1
  replace p2 := cell_regrown p2
  replace p3 := cell_regrown p3
  replace q0 := cell_regrown q0
  replace q1 := cell_regrown q1
  replace q2 := cell_regrown q2
  replace q3 := cell_regrown q3
  replace t0 := cell_regrown t0
  replace t1 := cell_regrown t1
  replace t2 := cell_regrown t2
  replace t3 := cell_regrown t3
  cases ha : goodB g c s
  · have cR2 : Hid (∀ d os, Calls Tryd.prog 18 #[agg g c s] (Sort.grow (redrawn U d) os) fun e w'' => e = .returned (.bool false) ∧ ∃ p : Regrown, w'' = Sort.grow (redrawn U p.d) p.os) := by
      intro d os
      have := cR.out d os
      rw [ha] at this
      exact this
    clear ha cR cS
    refine wp_region_quiet_below (by kernel_rfl) (by kernel_rfl) ?_
    repeat (quiet_step (first | (go_at_call 9; exact cW.out _ _) | (go_at_call 18; exact cR2.out _ _)))
    refine wpQuiet_nil ?_
    intro _ hw'
    obtain ⟨⟨dq, osq⟩, hw''⟩ := hw'
    subst hw''
    go_wp2
    go_returns
    exact ⟨rfl, hUb.trans ((below_regrown U dq osq).mono hUz)⟩
  · have cR2 : Hid (∀ d os, Calls Tryd.prog 18 #[agg g c s] (Sort.grow (redrawn U d) os) fun e w'' => e = .returned (.bool true) ∧ ∃ p : Regrown, w'' = Sort.grow (redrawn U p.d) p.os) := by
      intro d os
      have := cR.out d os
      rw [ha] at this
      exact this
    cases hb : goodB g' c' s'
    · have cS2 : Hid (∀ d os, Calls Tryd.prog 18 #[agg g' c' s'] (Sort.grow (redrawn U d) os) fun e w'' => e = .returned (.bool false) ∧ ∃ p : Regrown, w'' = Sort.grow (redrawn U p.d) p.os) := by
        intro d os
        have := cS.out d os
        rw [hb] at this
        exact this
      clear ha hb cR cS
      refine wp_region_quiet_below (by kernel_rfl) (by kernel_rfl) ?_
      repeat (quiet_step (first | (go_at_call 9; exact cW.out _ _) | (go_at_call 18; first | (with_reducible exact cR2.out _ _) | (with_reducible exact cS2.out _ _))))
      refine wpQuiet_nil ?_
      intro _ hw'
      obtain ⟨⟨dq, osq⟩, hw''⟩ := hw'
      subst hw''
      go_wp2
      go_returns
      exact ⟨rfl, hUb.trans ((below_regrown U dq osq).mono hUz)⟩
    · have cS2 : Hid (∀ d os, Calls Tryd.prog 18 #[agg g' c' s'] (Sort.grow (redrawn U d) os) fun e w'' => e = .returned (.bool true) ∧ ∃ p : Regrown, w'' = Sort.grow (redrawn U p.d) p.os) := by
        intro d os
        have := cS.out d os
        rw [hb] at this
        exact this
      have cC := hid (fun d os => Calls.regrown_of (cmp_num (⟨ha, rfl⟩ : Num g c s _) (⟨hb, rfl⟩ : Num g' c' s' _) (Sort.grow (redrawn U d) os)))
      have cD := hid (fun d os => Calls.regrown_of (refCmp_int g g' c c' s s' (Sort.grow (redrawn U d) os) ha hb))
      clear ha hb cR cS
      refine wp_region_quiet_below (by kernel_rfl) (by kernel_rfl) ?_
      repeat (quiet_step (first | (go_at_call 9; exact cW.out _ _) | (go_at_call 18; first | (with_reducible exact cR2.out _ _) | (with_reducible exact cS2.out _ _)) | (go_at_call 23; exact cC.out _ _) | (go_at_call 24; exact cD.out _ _)))
      refine wpQuiet_nil ?_
      intro _ hw'
      obtain ⟨⟨dq, osq⟩, hw''⟩ := hw'
      subst hw''
      go_wp2
      go_returns
      exact ⟨rfl, hUb.trans ((below_regrown U dq osq).mono hUz)⟩
end Go.Proofs.YtfiifppmpehncaaDoor
