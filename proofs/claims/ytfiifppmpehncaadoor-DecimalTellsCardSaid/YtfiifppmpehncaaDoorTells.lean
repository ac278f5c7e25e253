/-
  DecimalTells's walk.
-/
import Derived.Test.YtfiifppmpehncaaDoorRefT
import Derived.Test.YtfiifppmpehncaaDoorNum
import Derived.Deep.QuietTactic
import Derived.BigQuiet
import Derived.Lib.QuietBelow
namespace Go.Proofs.YtfiifppmpehncaaDoor
open Go.RowKit Go.Shelf

set_option maxRecDepth 100000 in
set_option maxHeartbeats 4000000 in
theorem tells_case (g ng : Bool) (c s : Int) (w : World) (ht : Tab w) (hng : negB g c = ng) (hg : g = true ∧ ng = false ∨ g = false ∧ (c != 0) = ng) :
    Calls Tryd.prog 4 #[agg g c s] w fun e w' => e = .returned (.bool true) ∧ Below w.heap.size w w' := by
  have HT := hid ht
  have HM := hid (fun w' ht' => mt_any g c s w' ht')
  have HRM := hid (fun w' => refText_mt_any g c s w')
  have HX := hid (fun w' ht' => xml_any g c s w' ht')
  have HRX := hid (fun w' => refText_xml_any g c s w')
  have HL := hid (fun w' => least_any g c s w')
  have HRL := hid (fun w' => refLeast_any g c s w')
  generalize mtN g c s = m at HM HRM
  generalize xmlN g c s = x at HX HRX
  generalize leastV g c s = l at HL HRL
  obtain ⟨m1, m2⟩ := m
  obtain ⟨x1, x2⟩ := x
  obtain ⟨l1, l2⟩ := l
  dsimp only at HM HRM HX HRX HL HRL
  have N0 := hid ((Now.start w).box g c s 24)
  have HNG := hid hng
  have HG := hid hg
  clear ht hng hg
  go_enter Tryd.func4, Tryd.ntmps4
  obtain ⟨b1, ⟨z1, x0, x1, x2⟩, _⟩ := N0.out
  go_wp2_with fail
  with_reducible refine (HM.out _ (HT.out.below b1)).mono ?_
  rintro e w1 ⟨rfl, h1⟩
  have N1 := hid (N0.out.below h1)
  clear b1 z1 x0 x1 x2 N0 h1
  obtain ⟨b1, ⟨z1, x0, x1, x2⟩, _⟩ := N1.out
  go_wp2_with fail
  with_reducible refine (HRM.out _).mono ?_
  rintro e w2 ⟨rfl, h2⟩
  have N2 := hid (N1.out.below h2)
  clear b1 z1 x0 x1 x2 N1 h2
  obtain ⟨b1, ⟨z1, x0, x1, x2⟩, _⟩ := N2.out
  go_wp2_with fail
  with_reducible refine (HX.out _ (HT.out.below b1)).mono ?_
  rintro e w3 ⟨rfl, h3⟩
  have N3 := hid (N2.out.below h3)
  clear b1 z1 x0 x1 x2 N2 h3
  obtain ⟨b1, ⟨z1, x0, x1, x2⟩, _⟩ := N3.out
  go_wp2_with fail
  with_reducible refine (HRX.out _).mono ?_
  rintro e w4 ⟨rfl, h4⟩
  have N4 := hid (N3.out.below h4)
  clear b1 z1 x0 x1 x2 N3 h4
  obtain ⟨b1, ⟨z1, x0, x1, x2⟩, _⟩ := N4.out
  go_wp2_with fail
  with_reducible refine (neg_any _ _ _ _).mono ?_
  rintro e w5 ⟨rfl, h5⟩
  have N5 := hid ((N4.out.below h5).box (negB g c) c s 24)
  clear b1 z1 x0 x1 x2 N4 h5
  obtain ⟨U, hU⟩ : ∃ U, U = w5.alloc (.cells #[.bool (negB g c), .int .i64 c, .int .i64 s] 24) := ⟨_, rfl⟩
  go_wp2_with fail
  rw [← hU] at N5 ⊢
  clear hU
  rw [HNG.out] at N5
  have hUb := N5.out.1
  have hUz := hUb.size
  have HT2 := hid (HT.out.below hUb)
  obtain ⟨_, ⟨_, p0, q0, r0⟩, ⟨_, p1, q1, r1⟩, _⟩ := N5.out
  have cW := hid (fun d os => Calls.regrown_of (wakes_any _ (HT2.out.below (below_regrown U d os))))
  have cG := hid (fun d os => Calls.regrown_of (good_any g c s (Sort.grow (redrawn U d) os)))
  have cR := hid (fun d os => Calls.regrown_of (refGood_any g c s (Sort.grow (redrawn U d) os)))
  have cL := hid (fun d os => Calls.regrown_of (HL.out (Sort.grow (redrawn U d) os)))
  have cM := hid (fun d os => Calls.regrown_of (HRL.out (Sort.grow (redrawn U d) os)))
  replace p0 := cell_regrown p0
  replace p1 := cell_regrown p1
  replace q0 := cell_regrown q0
  replace q1 := cell_regrown q1
  replace r0 := cell_regrown r0
  replace r1 := cell_regrown r1
  rcases HG.out with ⟨rfl, rfl⟩ | ⟨rfl, hcn⟩
  all_goals
    refine wp_region_quiet_below (by kernel_rfl) (by kernel_rfl) ?_
    repeat (quiet_step (first | (go_at_call 9; exact cW.out _ _) | (go_at_call 17; exact cG.out _ _) | (go_at_call 18; exact cR.out _ _) | (go_at_call 19; exact cL.out _ _) | (go_at_call 20; exact cM.out _ _)))
    refine wpQuiet_nil ?_
    intro _ hw'
    obtain ⟨⟨dq, osq⟩, hw''⟩ := hw'
    subst hw''
    go_wp2
    go_returns
    exact ⟨rfl, hUb.trans ((below_regrown U dq osq).mono hUz)⟩

theorem tells_any (g : Bool) (c s : Int) (w : World) (ht : Tab w) :
    Calls Tryd.prog 4 #[agg g c s] w fun e w' => e = .returned (.bool true) ∧ Below w.heap.size w w' := by
  cases g
  · exact tells_case false (c != 0) c s w ht (by simp [negB, bne]) (.inr ⟨rfl, rfl⟩)
  · exact tells_case true false c s w ht (by simp [negB]) (.inl ⟨rfl, rfl⟩)
end Go.Proofs.YtfiifppmpehncaaDoor
