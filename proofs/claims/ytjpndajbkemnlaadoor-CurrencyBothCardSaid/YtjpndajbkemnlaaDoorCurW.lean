/-
  The known currencies.
-/
import Derived.Test.YtjpndajbkemnlaaDoorCurP
import Derived.Test.YtjpndajbkemnlaaDoorCurB
namespace Go.Proofs.YtjpndajbkemnlaaDoor
open Go.RowKit Go.Shelf

theorem kwd : digV (⟨#[75, 87, 68]⟩ : ByteArray).data.toList = (3, true) := by decide +kernel
theorem xxx : digV (⟨#[88, 88, 88]⟩ : ByteArray).data.toList = (0, false) := by decide +kernel
theorem jpy1 : curN (parseMTN ⟨#[49, 50, 44, 48, 48]⟩) (⟨#[74, 80, 89]⟩ : ByteArray).data.toList = (1200, 2, 0) := by decide +kernel
theorem jpy2 : curN (parseMTN ⟨#[49, 50, 44, 53]⟩) (⟨#[74, 80, 89]⟩ : ByteArray).data.toList = (0, 0, 12) := by decide +kernel

set_option maxRecDepth 100000 in
set_option maxHeartbeats 2000000 in
theorem curwakes_any (w : World) : Calls Tryd.prog 4 #[] w fun e w' => e = .returned (.bool true) ∧ Below w.heap.size w w' := by
  go_enter Tryd.func4, Tryd.ntmps4
  go_wp2_with fail
  with_reducible refine (digits_of _ _ (by decide)).mono ?_
  rintro e w1 ⟨rfl, h1⟩
  rw [kwd]
  go_wp2_with fail
  with_reducible refine (digits_of _ _ (by decide)).mono ?_
  rintro e w2 ⟨rfl, h2⟩
  rw [xxx]
  have b2 : Below w.heap.size w w2 := h1.trans (h2.mono h1.size)
  clear h1 h2
  go_wp2_with fail
  with_reducible refine (curMT_any _ _ _ (by decide) (by decide)).mono ?_
  rintro e w3 ⟨rfl, h3⟩
  rw [jpy1]
  have b3 : Below w.heap.size w w3 := b2.trans (h3.mono b2.size)
  clear h3 b2
  go_wp2_with fail
  with_reducible refine (curMT_any _ _ _ (by decide) (by decide)).mono ?_
  rintro e w4 ⟨rfl, h4⟩
  rw [jpy2]
  have A4 := ((BoxNum.new w3 false 1200 2 24).below h4).alloc (.cells #[.bool false, .int .i64 0, .int .i64 0] 24)
  have b4 : Below w.heap.size w w4 := b3.trans (((Below.refl _ _).alloc (Nat.le_refl _) _).trans (h4.mono (by simp)) |>.mono b3.size)
  have b4' : Below w.heap.size w (w4.alloc (.cells #[.bool false, .int .i64 0, .int .i64 0] 24)) := b4.alloc b4.size _
  clear h4 b4 b3
  have HA := hid A4
  have HB := hid b4'
  obtain ⟨hz, a0, a1, a2⟩ := A4
  clear b4'
  go_wp2_with fail
  with_reducible refine (all_any _).mono ?_
  rintro e w5 ⟨v, rfl, hrow, hnn, h5⟩
  obtain ⟨g, cap, rfl⟩ := ownsRow_succ (k := 60) hrow
  clear hrow hnn
  have b5 : Below w.heap.size w w5 := HB.out.trans (h5.mono HB.out.size)
  clear h5
  go_wp2
  go_returns
  exact ⟨rfl, b5⟩
end Go.Proofs.YtjpndajbkemnlaaDoor
