/-
  Days: the texts that are known (wakes).
-/
import Derived.Test.YtpfmmmedhkgheaaDtP
namespace Go.Proofs.Ytpfmmmedhkgheaa
open Go.RowKit

theorem dknown_a : dcode (decide (0 ≤ mtV [50, 52, 48, 50, 50, 57])) = 0 ∧ oneOf (decide (0 ≤ mtV [50, 52, 48, 50, 50, 57])) (toX [50, 52, 48, 50, 50, 57]) = ⟨#[50, 48, 50, 52, 45, 48, 50, 45, 50, 57]⟩ := by decide +kernel
theorem dknown_b : dcode (decide (0 ≤ xmlV [50, 48, 55, 57, 45, 49, 50, 45, 51, 49])) = 0 ∧ oneOf (decide (0 ≤ xmlV [50, 48, 55, 57, 45, 49, 50, 45, 51, 49])) (toM [50, 48, 55, 57, 45, 49, 50, 45, 51, 49]) = ⟨#[55, 57, 49, 50, 51, 49]⟩ := by decide +kernel
theorem dknown_c : dcode (decide (0 ≤ xmlV [49, 57, 56, 48, 45, 48, 51, 45, 48, 49])) = 0 ∧ (if 0 ≤ xmlV [49, 57, 56, 48, 45, 48, 51, 45, 48, 49] then xmlV [49, 57, 56, 48, 45, 48, 51, 45, 48, 49] else 0) = 60 := by decide +kernel
theorem dknown_d : dcode (decide (0 ≤ mtV [50, 51, 48, 50, 50, 57])) = 16 := by decide +kernel
theorem dknown_e : dcode (momV [50, 48, 50, 52, 45, 48, 50, 45, 50, 57, 84, 50, 51, 58, 53, 57, 58, 53, 57]) = 0 ∧ dcode (momV [50, 48, 50, 52, 45, 48, 50, 45, 50, 57, 84, 50, 52, 58, 48, 48, 58, 48, 48]) = 16 := by decide +kernel

set_option maxHeartbeats 2000000 in
theorem dtwakes_any (w : World) :
    Calls Try.prog 6 #[] w fun e w' => e = .returned (.bool true) ∧ Below w.heap.size w w' := by
  have A := hid (fun w' => datetoxml_any ⟨#[50, 52, 48, 50, 50, 57]⟩ w' (by decide))
  have B := hid (fun w' => datetomt_any ⟨#[50, 48, 55, 57, 45, 49, 50, 45, 51, 49]⟩ w' (by decide))
  have C := hid (fun w' => dateday_any ⟨#[49, 57, 56, 48, 45, 48, 51, 45, 48, 49]⟩ w' (by decide))
  have D := hid (fun w' => datecheckmt_any ⟨#[50, 51, 48, 50, 50, 57]⟩ w' (by decide))
  have E := hid (fun w' => datecheckmoment_any ⟨#[50, 48, 50, 52, 45, 48, 50, 45, 50, 57, 84, 50, 51, 58, 53, 57, 58, 53, 57]⟩ w' (by decide))
  have F := hid (fun w' => datecheckmoment_any ⟨#[50, 48, 50, 52, 45, 48, 50, 45, 50, 57, 84, 50, 52, 58, 48, 48, 58, 48, 48]⟩ w' (by decide))
  rw [show (⟨#[50, 52, 48, 50, 50, 57]⟩ : ByteArray).data.toList = [50, 52, 48, 50, 50, 57] from rfl, dknown_a.1, dknown_a.2] at A
  rw [show (⟨#[50, 48, 55, 57, 45, 49, 50, 45, 51, 49]⟩ : ByteArray).data.toList = [50, 48, 55, 57, 45, 49, 50, 45, 51, 49] from rfl, dknown_b.1, dknown_b.2] at B
  rw [show (⟨#[49, 57, 56, 48, 45, 48, 51, 45, 48, 49]⟩ : ByteArray).data.toList = [49, 57, 56, 48, 45, 48, 51, 45, 48, 49] from rfl, dknown_c.1, dknown_c.2] at C
  rw [show (⟨#[50, 51, 48, 50, 50, 57]⟩ : ByteArray).data.toList = [50, 51, 48, 50, 50, 57] from rfl, dknown_d] at D
  rw [show (⟨#[50, 48, 50, 52, 45, 48, 50, 45, 50, 57, 84, 50, 51, 58, 53, 57, 58, 53, 57]⟩ : ByteArray).data.toList = [50, 48, 50, 52, 45, 48, 50, 45, 50, 57, 84, 50, 51, 58, 53, 57, 58, 53, 57] from rfl, dknown_e.1] at E
  rw [show (⟨#[50, 48, 50, 52, 45, 48, 50, 45, 50, 57, 84, 50, 52, 58, 48, 48, 58, 48, 48]⟩ : ByteArray).data.toList = [50, 48, 50, 52, 45, 48, 50, 45, 50, 57, 84, 50, 52, 58, 48, 48, 58, 48, 48] from rfl, dknown_e.2] at F
  go_enter Try.func6, Try.ntmps6
  go_wp2_with fail
  refine (A.out _).mono ?_
  rintro e w1 ⟨rfl, h1⟩
  go_wp2_with fail
  refine (B.out _).mono ?_
  rintro e w2 ⟨rfl, h2⟩
  have b2 := h1.trans (h2.mono h1.size)
  clear h1 h2
  go_wp2_with fail
  refine (C.out _).mono ?_
  rintro e w3 ⟨rfl, h3⟩
  have b3 := b2.trans (h3.mono b2.size)
  clear b2 h3
  go_wp2_with fail
  refine (D.out _).mono ?_
  rintro e w4 ⟨rfl, h4⟩
  have b4 := b3.trans (h4.mono b3.size)
  clear b3 h4
  go_wp2_with fail
  refine (E.out _).mono ?_
  rintro e w5 ⟨rfl, h5⟩
  have b5 := b4.trans (h5.mono b4.size)
  clear b4 h5
  go_wp2_with fail
  refine (F.out _).mono ?_
  rintro e w6 ⟨rfl, h6⟩
  have b6 := b5.trans (h6.mono b5.size)
  go_wp2
  go_returns
  exact ⟨rfl, b6⟩
end Go.Proofs.Ytpfmmmedhkgheaa
