/-
  The walk of CurrencyTells.
-/
import Derived.Test.YtjpndajbkemnlaaCurW
import Derived.Test.YtjpndajbkemnlaaRefQ
import Derived.Test.YtjpndajbkemnlaaNow
import Derived.Deep.QuietTactic
import Derived.BigQuiet
import Derived.Lib.QuietBelow
namespace Go.Proofs.Ytjpndajbkemnlaa
open Go.RowKit Go.Shelf

set_option maxHeartbeats 1000000 in
theorem callTells_long (s t : ByteArray) (g : Bool) (c k : Int) (w : World) (hs : s.size ≤ 9223372036854775807) (ht : t.size ≤ 9223372036854775807) (hl : 60 < s.size ∨ s.size ≤ 60 ∧ 60 < t.size) :
    Calls Try.prog 3 #[.string s, .string t, agg g c k] w fun e w' => e = .returned (.bool true) ∧ Below w.heap.size w w' := by
  have b0 : Below w.heap.size w (w.alloc (.cells #[.bool g, .int .i64 c, .int .i64 k] 23)) := (Below.refl _ w).alloc (Nat.le_refl _) _
  rcases hl with hl | ⟨hl, hl2⟩
  all_goals
    go_enter Try.func3, Try.ntmps3
    go_wp2_with (go_at_call 6; with_reducible refine (curwakes_any _).mono ?_; rintro e w1 ⟨rfl, h1⟩)
    go_returns
    exact ⟨rfl, b0.trans (h1.mono b0.size)⟩

set_option maxRecDepth 100000 in
set_option maxHeartbeats 8000000 in
theorem callTells_short (s t : ByteArray) (g : Bool) (c k : Int) (w : World) (hs : s.size ≤ 60) (ht : t.size ≤ 60) :
    Calls Try.prog 3 #[.string s, .string t, agg g c k] w fun e w' => e = .returned (.bool true) ∧ Below w.heap.size w w' := by
  have HD := hid (fun w' => digits_of t w' (by omega))
  have HRD := hid (fun w' => refDigits_any t w')
  have HF := hid (fun w' => fits_any g c k t w' (by omega))
  have HRF := hid (fun w' => refFits_any g c k t w' (by omega))
  have HM := hid (fun w' => curMT_any s t w' (by omega) (by omega))
  have HRM := hid (fun w' => refcurMT_any s t w' hs (by omega))
  have HX := hid (fun w' => curXML_any s t w' (by omega) (by omega))
  have HRX := hid (fun w' => refcurXML_any s t w' hs (by omega))
  generalize digV t.data.toList = d at HD HRD
  generalize fitsV g c k t.data.toList = f at HF HRF
  generalize curN (parseMTN s) t.data.toList = m at HM HRM
  generalize curN (parseXMLN s) t.data.toList = x at HX HRX
  obtain ⟨d1, d2⟩ := d
  obtain ⟨m1, m2, m3⟩ := m
  obtain ⟨x1, x2, x3⟩ := x
  dsimp only at HD HRD HM HRM HX HRX
  have N0 := hid ((Now.start w).box g c k 23)
  go_enter Try.func3, Try.ntmps3
  obtain ⟨b1, ⟨z1, p1, p2, p3⟩, _⟩ := N0.out
  go_wp2_with fail
  with_reducible refine (HD.out _).mono ?_
  rintro e w1 ⟨rfl, h1⟩
  have N1 := hid (N0.out.below h1)
  clear b1 z1 p1 p2 p3 N0 h1
  go_wp2_with fail
  with_reducible refine (HRD.out _).mono ?_
  rintro e w1 ⟨rfl, rfl⟩
  obtain ⟨b1, ⟨z1, p1, p2, p3⟩, _⟩ := N1.out
  go_wp2_with fail
  with_reducible refine (HM.out _).mono ?_
  rintro e w2 ⟨rfl, h2⟩
  have N2 := hid ((N1.out.below h2).box false m1 m2 23)
  clear b1 z1 p1 p2 p3 N1 h2
  go_wp2_with fail
  with_reducible refine (HRM.out _).mono ?_
  rintro e w3 ⟨rfl, h3⟩
  have N3 := hid ((N2.out.below h3).box false m1 m2 23)
  clear N2 h3
  go_wp2_with fail
  with_reducible refine (HX.out _).mono ?_
  rintro e w4 ⟨rfl, h4⟩
  have N4 := hid ((N3.out.below h4).box false x1 x2 23)
  clear N3 h4
  go_wp2_with fail
  with_reducible refine (HRX.out _).mono ?_
  rintro e w5 ⟨rfl, h5⟩
  have N5 := hid ((N4.out.below h5).box false x1 x2 23)
  clear N4 h5
  obtain ⟨U, hU⟩ : ∃ U, U = w5.alloc (.cells #[.bool false, .int .i64 x1, .int .i64 x2] 23) := ⟨_, rfl⟩
  go_wp2_with fail
  rw [← hU] at N5 ⊢
  clear hU
  have hUb := N5.out.1
  have hUz := hUb.size
  obtain ⟨_, ⟨_, a1, a2, a3⟩, ⟨_, e1, e2, e3⟩, ⟨_, i1, i2, i3⟩, ⟨_, o1, o2, o3⟩, ⟨_, u1, u2, u3⟩, _⟩ := N5.out
  have cW := hid (fun d os => Calls.regrown_of (curwakes_any (Sort.grow (redrawn U d) os)))
  have cF := hid (fun d os => Calls.regrown_of (HF.out (Sort.grow (redrawn U d) os)))
  have cR := hid (fun d os => Calls.regrown_of (HRF.out (Sort.grow (redrawn U d) os)))
  replace a1 := cell_regrown a1
  replace a2 := cell_regrown a2
  replace a3 := cell_regrown a3
  replace e1 := cell_regrown e1
  replace e2 := cell_regrown e2
  replace e3 := cell_regrown e3
  replace i1 := cell_regrown i1
  replace i2 := cell_regrown i2
  replace i3 := cell_regrown i3
  replace o1 := cell_regrown o1
  replace o2 := cell_regrown o2
  replace o3 := cell_regrown o3
  replace u1 := cell_regrown u1
  replace u2 := cell_regrown u2
  replace u3 := cell_regrown u3
  cases d2
  all_goals
    refine wp_region_quiet_below (by kernel_rfl) (by kernel_rfl) ?_
    repeat (quiet_step (first | (go_at_call 6; exact cW.out _ _) | (go_at_call 12; exact cF.out _ _) | (go_at_call 13; exact cR.out _ _)))
    refine wpQuiet_nil ?_
    intro _ hw'
    obtain ⟨⟨dq, osq⟩, hw''⟩ := hw'
    subst hw''
    go_wp2
    go_returns
    exact ⟨rfl, hUb.trans ((below_regrown U dq osq).mono hUz)⟩

theorem callTells_any (s : ByteArray) (hs : s.size ≤ 9223372036854775807) (t : ByteArray) (ht : t.size ≤ 9223372036854775807) (g : Bool) (c k : Int) (w : World) :
    Calls Try.prog 3 #[.string s, .string t, agg g c k] w fun e w' => e = .returned (.bool true) ∧ Below w.heap.size w w' := by
  by_cases h1 : s.size ≤ 60
  · by_cases h2 : t.size ≤ 60
    · exact callTells_short s t g c k w h1 h2
    · exact callTells_long s t g c k w hs ht (.inr ⟨h1, by omega⟩)
  · exact callTells_long s t g c k w hs ht (.inl (by omega))
end Go.Proofs.Ytjpndajbkemnlaa
